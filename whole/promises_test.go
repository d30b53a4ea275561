package whole

import (
	"reflect"
	"slices"
	"strconv"
	"testing"

	"hasp/api"
	"hasp/close"
	"hasp/desk"
	"hasp/join"
	"hasp/lean"
	"hasp/match"
	"hasp/norm"
	"hasp/order"
	"hasp/rules"
	"hasp/sub"
	"hasp/term"
	"hasp/text"
	"hasp/unify"
)

// enough: were there as many as make the test worth its while?
func enough(t *testing.T, what string, got, want int) {
	t.Helper()
	if got < want {
		t.Errorf("%s: only %d", what, got)
	}
}

// First by one list, then by another, is by After of both.
func TestAfterOfBoth(t *testing.T) {
	d := draw(101)
	held := 0
	for range 2000 {
		s, u, one := drawnList(&d, 3), drawnList(&d, 3), drawn(&d, 6, api.Vars)
		both, e := sub.After(s, u)
		first, f := sub.Apply(s, one)
		if e != api.OK || f != api.OK {
			t.Fatalf("After: error %d, Apply: error %d", e, f)
		}
		then, e := sub.Apply(u, first)
		if got, f := sub.Apply(both, one); !slices.Equal(got, then) || e != f {
			t.Fatalf("%v by %v, then by %v: %v %d; by both: %v %d", one, s, u, then, e, got, f)
		}
		if e == api.OK {
			held++
		}
	}
	enough(t, "by both", held, 1000)
}

// By what fits the one becomes the other.
func TestByWhatFits(t *testing.T) {
	d := draw(102)
	var found, drawnSo int
	for range 4000 {
		p, one := drawn(&d, 6, 4), drawn(&d, 12, 4)
		made, e := sub.Apply(drawnList(&d, 4), p)
		if e == api.OK && d.below(2) == 0 {
			one = made
			drawnSo++
		} else {
			made = nil
		}
		s, is, e := match.Fit(p, one)
		if e != api.OK || made != nil && !is {
			t.Fatalf("Fit(%v, %v): %v %d", p, one, is, e)
		}
		if !is {
			continue
		}
		found++
		if got, e := sub.Apply(s, p); !slices.Equal(got, one) || e != api.OK {
			t.Fatalf("Fit(%v, %v): %v, by which it becomes %v %d", p, one, s, got, e)
		}
	}
	enough(t, "that fit", found, drawnSo+100)
}

// What comes makes both the same, and whatever else does is made of it.
func TestWhatComesOfMeeting(t *testing.T) {
	d := draw(103)
	var met, not int
	for range 3000 {
		a, b := drawn(&d, 8, 4), drawn(&d, 8, 4)
		s, is, e := unify.Meet(a, b)
		if !is || e != api.OK {
			not++
			continue
		}
		met++
		one, e := sub.Apply(s, a)
		two, f := sub.Apply(s, b)
		if !slices.Equal(one, two) || e != f {
			t.Fatalf("Meet(%v, %v): %v, by which they become %v %d and %v %d", a, b, s, one, e, two, f)
		}
	}
	enough(t, "that meet", met, 500)
	enough(t, "that do not", not, 500)
}

func TestWhateverElseIsMadeOfIt(t *testing.T) {
	d := draw(111)
	for range 3000 {
		// Two terms that are the same by a list: in each of them a variable stands for a part.
		same := drawn(&d, 10, 0)
		at, to := d.below(len(same)), d.below(len(same))
		list := become(t)
		list[0], _ = term.Part(same, at)
		list[1], _ = term.Part(same, to)
		a, _ := term.Put(same, at, api.Term{-1})
		b, _ := term.Put(same, to, api.Term{-2})
		s, is, e := unify.Meet(a, b)
		if !is || e != api.OK {
			t.Fatalf("%v and %v are the same by %v, but Meet: %v %d", a, b, list, is, e)
		}
		// What comes, and then the list, is the list alone.
		if then, e := sub.After(s, list); !reflect.DeepEqual(then, list) || e != api.OK {
			t.Fatalf("%v and %v are the same by %v, which is not made of %v: %v %d", a, b, list, s, then, e)
		}
	}
}

// Nothing is above itself; who is above stays above, whatever variables become, and wherever both stand.
func TestWhoIsAboveStays(t *testing.T) {
	d := draw(104)
	var above, kept int
	for range 6000 {
		a, b := drawn(&d, 8, 3), drawn(&d, 8, 3)
		if is, e := order.Above(rising, a, a); is || e != api.OK {
			t.Fatalf("Above(%v, %v): %v %d", a, a, is, e)
		}
		is, e := order.Above(rising, a, b)
		if e != api.OK {
			t.Fatalf("Above(%v, %v): error %d", a, b, e)
		}
		if !is {
			continue
		}
		above++
		s, around := drawnList(&d, 3), drawn(&d, 8, 3)
		at := d.below(len(around))
		one, e := sub.Apply(s, a)
		two, f := sub.Apply(s, b)
		if e != api.OK || f != api.OK {
			continue
		}
		one, e = term.Put(around, at, one)
		two, f = term.Put(around, at, two)
		if e != api.OK || f != api.OK {
			continue
		}
		kept++
		if is, e := order.Above(rising, one, two); !is || e != api.OK {
			t.Fatalf("%v is above %v, but Above(%v, %v): %v %d", a, b, one, two, is, e)
		}
		if is, e := order.Above(rising, two, one); is || e != api.OK {
			t.Fatalf("Above(%v, %v): %v %d, both ways", two, one, is, e)
		}
	}
	enough(t, "above", above, 1000)
	enough(t, "that stay", kept, 500)
}

// Of rules that fall each step goes to what is below, and Form of Form is itself.
func TestStepsGoBelow(t *testing.T) {
	d := draw(105)
	var gone, formed int
	for range 5000 {
		l, one := drawnRules(t, &d), large(&d, 16, 3)
		steps, e := rules.Steps(l, one)
		if e != api.OK {
			continue
		}
		for _, s := range steps {
			gone++
			if is, e := order.Above(rising, one, s.To); !is || e != api.OK {
				t.Fatalf("%v has the step %v by %v, but is not above it: %d", one, s, l, e)
			}
		}
		form, n, e := norm.Form(l, one)
		if e != api.OK {
			continue
		}
		again, m, e := norm.Form(l, form)
		if is, f := norm.Is(l, form); !slices.Equal(again, form) || m != 0 || !is || e != api.OK || f != api.OK {
			t.Fatalf("%v by %v has the Form %v, and that %v %d", one, l, form, again, m)
		}
		if n > 0 {
			formed++
		}
	}
	enough(t, "steps", gone, 1000)
	enough(t, "Forms", formed, 300)
}

// ends of all ways that lead from a term; false, if there are too many, or one of them is too large.
func ends(l []api.Rule, from api.Term) (map[string]int, bool) {
	seen, out := map[string]int{}, map[string]int{}
	for work := []api.Term{from}; len(work) > 0; work = work[1:] {
		name, _ := text.Show(work[0])
		if seen[name] == 1 {
			continue
		}
		seen[name] = 1
		steps, e := rules.Steps(l, work[0])
		if e != api.OK || len(seen) > 300 {
			return nil, false
		}
		if len(steps) == 0 {
			out[name] = 1
		}
		for _, s := range steps {
			work = append(work, s.To)
		}
	}
	return out, true
}

// Of rules that fall, and of which all pairs meet, it does not matter which steps are taken.
func TestWhicheverStepsAreTaken(t *testing.T) {
	d := draw(106)
	var one, several int
	for range 5000 {
		l, from := drawnRules(t, &d), large(&d, 16, 3)
		all, is := ends(l, from)
		meet, e := join.All(l)
		if !is || e != api.OK {
			continue
		}
		if len(all) != 1 {
			several++
			if meet {
				t.Fatalf("all pairs of %v meet, but %v ends as each of %v", l, from, all)
			}
			continue
		}
		form, n, e := norm.Form(l, from)
		if name, _ := text.Show(form); all[name] != 1 || e != api.OK {
			t.Fatalf("%v by %v ends as %v, but its Form is %v %d", from, l, all, form, e)
		}
		if n > 1 {
			one++
		}
	}
	enough(t, "with one end", one, 200)
	enough(t, "with several", several, 10)
}

// value of a term in a world of two things, which says of each symbol what it makes of its parts; and what stands behind the term.
func value(world [api.Syms]int, t api.Term, vars int) (int, api.Term) {
	sign, rest := t[0], t[1:]
	if sign < 0 {
		return vars >> (-1 - sign) & 1, rest
	}
	at := 0
	for range sign / 2 {
		var part int
		part, rest = value(world, rest, vars)
		at = 2*at + part
	}
	return world[sign] >> at & 1, rest
}

// holds: are both the same in the world, whatever the variables are?
func holds(world [api.Syms]int, l, r api.Term) bool {
	for vars := range 1 << api.Own {
		one, _ := value(world, l, vars)
		other, _ := value(world, r, vars)
		if one != other {
			return false
		}
	}
	return true
}

// Rules that Run tells fall, all their pairs meet, and both of each pair that was handed in have one Form; in whatever world the pairs hold, the rules do.
func TestWhatRunTells(t *testing.T) {
	d := draw(107)
	var closed, worlds int
	for range 600 {
		e := drawnLaws(t, &d)
		l, _, f := close.Run(rising, e)
		if f != api.OK {
			continue
		}
		closed++
		if is, f := rules.Falls(rising, l); !is || f != api.OK {
			t.Fatalf("Run(%v): %v does not fall: %d", e, l, f)
		}
		if is, f := join.All(l); !is && f == api.OK {
			t.Fatalf("Run(%v): the pairs of %v do not all meet", e, l)
		}
		for _, p := range e {
			if is, f := join.Pair(l, p); !is && f == api.OK {
				t.Fatalf("Run(%v): by %v both of %v have not one Form", e, l, p)
			}
		}
		for range 200 {
			world := [api.Syms]int{d.below(2), d.below(2), d.below(4), d.below(4), d.below(16), d.below(16)}
			if slices.ContainsFunc(e, func(p api.Pair) bool { return !holds(world, p.L, p.R) }) {
				continue
			}
			worlds++
			for _, r := range l {
				if !holds(world, r.L, r.R) {
					t.Fatalf("Run(%v): %v does not hold in %v", e, r, world)
				}
			}
		}
	}
	enough(t, "closed", closed, 200)
	enough(t, "worlds", worlds, 1000)
}

// What a term becomes by Sub goes by a step to To.
func TestLeansAreSteps(t *testing.T) {
	d := draw(108)
	gone := 0
	for range 1500 {
		l, one := drawnRules(t, &d), large(&d, 8, api.Own)
		all, _ := lean.All(l, one)
		for _, by := range all {
			from, e := sub.Apply(by.Sub, one)
			if e != api.OK {
				continue
			}
			steps, e := rules.Steps(l[by.Rule:by.Rule+1], from)
			if e != api.OK {
				continue
			}
			gone++
			if !slices.ContainsFunc(steps, func(s api.Step) bool { return slices.Equal(s.To, by.To) }) {
				t.Fatalf("%v leans by %v so: %v; but %v has the steps %v", one, l, by, from, steps)
			}
		}
	}
	enough(t, "leans", gone, 1000)
}

// What is shown is read as it was, and nothing else is.
func TestShownAndRead(t *testing.T) {
	d := draw(109)
	const letters = "abghfkxyzwpqrs(), "
	var was, not int
	for range 5000 {
		one := drawn(&d, 1+d.below(api.MaxSize), api.Vars)
		s, e := text.Show(one)
		if got, f := text.Read(s); !slices.Equal(got, one) || e != api.OK || f != api.OK {
			t.Fatalf("%v is shown as %q %d, and read as %v %d", one, s, e, got, f)
		}
		at := d.below(len(s))
		other := s[:at] + letters[d.below(len(letters)):][:1] + s[at+1:]
		got, e := text.Read(other)
		if again, _ := text.Show(got); e == api.OK && again != other {
			t.Fatalf("%q is read as %v, which is shown as %q", other, got, again)
		}
		if e == api.OK {
			was++
		} else {
			not++
		}
	}
	enough(t, "terms", was, 500)
	enough(t, "others", not, 500)
}

// The desk tells what the calls do.
func TestTheDeskTellsTheSame(t *testing.T) {
	d := draw(110)
	show := func(one api.Term) string {
		s, e := text.Show(one)
		if e != api.OK {
			t.Fatalf("Show(%v): error %d", one, e)
		}
		return s
	}
	told := func(e api.Errno, s string) string {
		if e != api.OK {
			return "error " + strconv.Itoa(int(e)) + "\n"
		}
		return s + "\n"
	}
	says := map[bool]string{true: "yes", false: "no"}
	for range 300 {
		e, a, b := drawnLaws(t, &d), drawn(&d, 10, api.Vars), drawn(&d, 10, api.Vars)
		script, want := "", ""
		for _, p := range e {
			script, want = script+"say "+show(p.L)+" = "+show(p.R)+"\n", want+"ok\n"
		}
		l, n, f := close.Run(rising, e)
		script, want = script+"close\n", want+told(f, strconv.Itoa(len(l))+" "+strconv.Itoa(n))
		r := api.Rule{L: drawn(&d, 6, 5), R: drawn(&d, 4, 5)}
		more := append(slices.Clone(l), r)
		f = rules.Check(more)
		script, want = script+"rule "+show(r.L)+" > "+show(r.R)+"\n", want+told(f, "ok")
		if f == api.OK {
			l = more
		}
		list := "-"
		for k, r := range l {
			if k == 0 {
				list = show(r.L) + " > " + show(r.R)
			} else {
				list += "; " + show(r.L) + " > " + show(r.R)
			}
		}
		script, want = script+"rules\n", want+list+"\n"
		meet, f := join.All(l)
		script, want = script+"meet\n", want+told(f, says[meet])
		form, n, f := norm.Form(l, a)
		if f != api.OK {
			form = a
		}
		script, want = script+"form "+show(a)+"\n", want+told(f, show(form)+" "+strconv.Itoa(n))
		same, f := join.Pair(l, api.Pair{L: a, R: b})
		script, want = script+"same "+show(a)+" "+show(b)+"\n", want+told(f, says[same])
		above, f := order.Above(rising, a, b)
		script, want = script+"above "+show(a)+" "+show(b)+"\n", want+told(f, says[above])
		if got, f := desk.Play(script); got != want || f != api.OK {
			t.Fatalf("Play(%q): %q %d, want %q", script, got, f, want)
		}
	}
}
