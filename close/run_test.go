package close

import (
	"reflect"
	"slices"
	"testing"

	"hasp/api"
	"hasp/join"
	"hasp/match"
	"hasp/rules"
)

func TestRun(t *testing.T) { // J2
	for _, c := range []struct {
		rank  []int
		e     []api.Pair
		want  []api.Rule
		turns int
	}{
		{rising, nil, nil, 0},
		{rising, []api.Pair{}, nil, 0},
		{rising, still(1), nil, 1},
		{rising, []api.Pair{pair(api.Term{-1}, api.Term{-1})}, nil, 1},
		{rising, []api.Pair{pair(api.Term{2, -7}, api.Term{-7})}, []api.Rule{rule(api.Term{2, -1}, api.Term{-1})}, 1},
		{rising, []api.Pair{pair(api.Term{2, 2, -1}, api.Term{-1}), pair(api.Term{2, 0}, api.Term{1})},
			[]api.Rule{rule(api.Term{2, 2, -1}, api.Term{-1}), rule(api.Term{2, 0}, api.Term{1}), rule(api.Term{2, 1}, api.Term{0})}, 5},
		// A rule is taken away, and comes back as another one.
		{rising, []api.Pair{pair(api.Term{3, 2, 0}, api.Term{1}), pair(api.Term{2, 0}, api.Term{0})},
			[]api.Rule{rule(api.Term{2, 0}, api.Term{0}), rule(api.Term{3, 0}, api.Term{1})}, 3},
		// By another rank.
		{rising, []api.Pair{pair(api.Term{2, -1}, api.Term{3, -1}), pair(api.Term{3, 3, -1}, api.Term{0})},
			[]api.Rule{rule(api.Term{3, -1}, api.Term{2, -1}), rule(api.Term{2, 2, -1}, api.Term{0}), rule(api.Term{2, 0}, api.Term{0})}, 4},
		{falling, []api.Pair{pair(api.Term{2, -1}, api.Term{3, -1}), pair(api.Term{0}, api.Term{1})},
			[]api.Rule{rule(api.Term{2, -1}, api.Term{3, -1}), rule(api.Term{0}, api.Term{1})}, 2},
		// as many turns as there may be
		{rising, still(api.MaxTurns), nil, api.MaxTurns},
		{rising, append(still(api.MaxTurns-1), pair(api.Term{1}, api.Term{0})), []api.Rule{rule(api.Term{1}, api.Term{0})}, api.MaxTurns},
		{rising, append(still(api.MaxTurns-2), pair(api.Term{2, 2, -1}, api.Term{-1})), []api.Rule{rule(api.Term{2, 2, -1}, api.Term{-1})}, api.MaxTurns},
	} {
		if m, n, err := Run(c.rank, c.e); !sameRules(m, c.want) || n != c.turns || err != api.OK {
			t.Errorf("Run(%v, %v): %v %d %d, want %v %d", c.rank, c.e, m, n, err, c.want, c.turns)
		}
	}
}

func TestRunErrors(t *testing.T) { // J2, P1
	// more turns than there may be
	notRun(t, api.ErrMany, rising, still(api.MaxTurns+1))
	notRun(t, api.ErrMany, rising, still(api.MaxEqs))
	notRun(t, api.ErrMany, rising, append(still(api.MaxTurns-1), pair(api.Term{2, 2, -1}, api.Term{-1})))
	// a turn that is not taken any more tells nothing
	notRun(t, api.ErrMany, rising, append(still(api.MaxTurns), swap()))
	// no end
	notRun(t, api.ErrMany, rising, []api.Pair{pair(api.Term{3, 2, 3, -1}, api.Term{2, 3, -1})})
	notRun(t, api.ErrMany, rising, group())
	// a turn's errors: of the first one, of a later one, of the last one
	notRun(t, api.ErrOrder, rising, []api.Pair{swap()})
	notRun(t, api.ErrOrder, rising, append(still(api.MaxTurns-1), swap()))
	notRun(t, api.ErrOrder, rising, append(group()[:2], swap()))
	notRun(t, api.ErrRange, rising, append(still(2), pair(api.Term{4, -8, 4, -7, 4, -6, 4, -5, -4}, api.Term{0}), swap()))
	notRun(t, api.ErrOrder, rising, append(still(2), swap(), pair(api.Term{4, -8, 4, -7, 4, -6, 4, -5, -4}, api.Term{0})))
	var many []api.Pair
	for _, r := range append(ground(), rule(api.Term{5, 1, 1}, api.Term{1})) {
		many = append(many, api.Pair(r))
	}
	notRun(t, api.ErrMany, rising, many)
	if m, n, err := Run(rising, many[:api.MaxRules]); !sameRules(m, ground()) || n != api.MaxRules || err != api.OK {
		t.Errorf("Run(%v): %v %d %d", many, m, n, err)
	}
}

// draw: numbers that are the same each time.
type draw uint32

func (d *draw) below(n int) int {
	*d = *d*1664525 + 1013904223
	return int(uint32(*d)>>8) % n
}

// drawn term of at most so many signs, with variables from -1 to -vars.
func drawn(d *draw, most, vars int) api.Term {
	kind := d.below(4)
	if most >= 3 && kind > 1 {
		one := drawn(d, most-2, vars)
		return slices.Concat(api.Term{4 + d.below(2)}, one, drawn(d, most-1-len(one), vars))
	}
	if most >= 2 && kind == 1 {
		return slices.Concat(api.Term{2 + d.below(2)}, drawn(d, most-1, vars))
	}
	return api.Term{d.below(vars+2) - vars}
}

// drawnPairs: of terms without variables, or of laws that are drawn.
func drawnPairs(d *draw) []api.Pair {
	laws := append(group(), []api.Pair{
		pair(api.Term{4, -1, 0}, api.Term{-1}),
		pair(api.Term{2, 2, -1}, api.Term{-1}),
		pair(api.Term{-1}, api.Term{2, 3, -1}),
		pair(api.Term{2, 3, -1}, api.Term{3, 2, -1}),
		pair(api.Term{3, 3, -1}, api.Term{3, -1}),
		pair(api.Term{5, -1, -1}, api.Term{-1}),
		pair(api.Term{5, -1, -2}, api.Term{4, -1, 2, -2}),
		pair(api.Term{3, 4, -1, -2}, api.Term{4, 3, -1, 3, -2}),
	}...)
	var e []api.Pair
	for range 1 + d.below(3) {
		switch d.below(3) {
		case 0:
			e = append(e, laws[d.below(len(laws))])
		case 1:
			e = append(e, pair(drawn(d, 6, 0), drawn(d, 4, 0)))
		case 2:
			e = append(e, pair(drawn(d, 5, 2), drawn(d, 3, 2)))
		}
	}
	return e
}

func TestRunIsTurnAfterTurn(t *testing.T) { // J2
	d := draw(67)
	var ended, left int
	for range 1500 {
		e := drawnPairs(&d)
		var l []api.Rule
		rest, n, err := e, 0, api.OK
		for ; err == api.OK && len(rest) > 0 && n <= api.MaxTurns; n++ {
			was := l
			l, rest, err = Turn(rising, l, rest)
			if err == api.OK {
				goesOn(t, was, l)
			}
		}
		if err == api.OK && n > api.MaxTurns {
			err = api.ErrMany
		}
		if err != api.OK {
			left++
			notRun(t, err, rising, e)
			continue
		}
		ended++
		if m, turns, err := Run(rising, e); !sameRules(m, l) || turns != n || err != api.OK {
			t.Fatalf("Run(%v): %v %d %d, want %v %d", e, m, turns, err, l, n)
		}
	}
	if ended < 300 || left < 300 {
		t.Errorf("%d came to an end, %d did not", ended, left)
	}
}

// goesOn: the rules of a turn fall, the new one is the last, and just those stay that it does not fit.
func goesOn(t *testing.T, was, l []api.Rule) {
	t.Helper()
	if is, e := rules.Falls(rising, l); !is || e != api.OK {
		t.Fatalf("Falls(%v): %v %d", l, is, e)
	}
	if sameRules(was, l) {
		return
	}
	last := l[len(l)-1]
	stay := slices.DeleteFunc(slices.Clone(was), func(r api.Rule) bool {
		over, e := match.Over(r.L, last.L)
		return e != api.OK || len(over) > 0
	})
	if !sameRules(l[:len(l)-1], stay) {
		t.Fatalf("from %v to %v", was, l)
	}
}

// world: one of two things, 0 and 1, that each symbol makes of its parts, a bit of the number for each.
type world [api.Syms]int

// worldOf a number: one of all there are.
func worldOf(n int) world {
	var w world
	for symbol, kinds := range [api.Syms]int{2, 2, 4, 4, 16, 16} {
		w[symbol], n = n%kinds, n/kinds
	}
	return w
}

// value of the first term of a list, and what stands behind it.
func (w *world) value(t api.Term, vars int) (int, api.Term) {
	sign, rest := t[0], t[1:]
	if sign < 0 {
		return vars >> (-1 - sign) & 1, rest
	}
	at := 0
	for range sign / 2 {
		var part int
		part, rest = w.value(rest, vars)
		at = 2*at + part
	}
	return w[sign] >> at & 1, rest
}

// holds: are both the same, whatever -1 to -4 are?
func (w *world) holds(l, r api.Term) bool {
	for vars := range 1 << api.Own {
		one, _ := w.value(l, vars)
		other, _ := w.value(r, vars)
		if one != other {
			return false
		}
	}
	return true
}

func TestWhatRunTells(t *testing.T) { // J3
	d := draw(71)
	var several, longer, met int
	for range 1200 {
		e := drawnPairs(&d)
		l, n, err := Run(rising, e)
		if err != api.OK {
			continue
		}
		if is, err := rules.Falls(rising, l); !is || err != api.OK {
			t.Fatalf("Run(%v): %v does not fall: %d", e, l, err)
		}
		if is, err := join.All(l); err == api.OK && !is {
			t.Fatalf("Run(%v): the pairs of %v do not meet", e, l)
		} else if err == api.OK {
			met++
		}
		for _, p := range e {
			if is, err := join.Pair(l, p); err == api.OK && !is {
				t.Fatalf("Run(%v): %v has two Forms by %v", e, p, l)
			}
		}
		if len(l) > 1 {
			several++
		}
		if n > len(e) {
			longer++
		}
	}
	if several < 200 || longer < 50 || met < 300 {
		t.Errorf("%d have several rules, %d had more turns than pairs, of %d all pairs meet", several, longer, met)
	}
}

func TestWhereThePairsHoldTheRulesDo(t *testing.T) { // J3
	d := draw(73)
	worlds := 0
	for range 40 {
		e := drawnPairs(&d)
		l, _, err := Run(rising, e)
		if err != api.OK || len(l) < 2 {
			continue
		}
		for k := range 2 * 2 * 4 * 4 * 16 * 16 {
			w := worldOf(k)
			if slices.ContainsFunc(e, func(p api.Pair) bool { return !w.holds(p.L, p.R) }) {
				continue
			}
			worlds++
			for _, r := range l {
				if !w.holds(r.L, r.R) {
					t.Fatalf("Run(%v): %v does not hold in %v", e, r, w)
				}
			}
		}
	}
	if worlds < 1000 {
		t.Errorf("only %d worlds", worlds)
	}
}

// roomy: the list with spare room behind it, in which each number is 77.
func roomy(l []int) []int {
	return append(slices.Clone(l), slices.Repeat([]int{77}, 40)...)[:len(l)]
}

// scribble over a list and the spare room behind it.
func scribble(l []int) {
	l = l[:cap(l)]
	for k := range l {
		l[k] = 55
	}
}

// asked of Turn: one of the same Forms, one that makes a rule, and one that takes rules away.
var asked = []struct {
	l []api.Rule
	e []api.Pair
}{
	{[]api.Rule{rule(api.Term{2, 2, -1}, api.Term{-1})}, []api.Pair{pair(api.Term{2, 2, 0}, api.Term{0}), pair(api.Term{1}, api.Term{0}), pair(api.Term{1}, api.Term{0})}},
	{[]api.Rule{rule(api.Term{2, 2, -1}, api.Term{-1})}, []api.Pair{pair(api.Term{2, 0}, api.Term{1}), pair(api.Term{-8}, api.Term{3, -8})}},
	{[]api.Rule{rule(api.Term{3, 2, 0}, api.Term{1}), rule(api.Term{5, -1, -1}, api.Term{-1}), rule(api.Term{4, 2, 0, -2}, api.Term{-2})}, []api.Pair{pair(api.Term{0}, api.Term{2, 0}), pair(api.Term{3, 1}, api.Term{-5})}},
}

func TestOnlyRead(t *testing.T) { // P2
	for _, c := range asked {
		rank := roomy(rising)
		all := [][]int{rank[:cap(rank)]}
		var l []api.Rule
		for _, r := range append(slices.Clone(c.l), rule(api.Term{77}, api.Term{77})) {
			r = rule(roomy(r.L), roomy(r.R))
			all = append(all, r.L[:cap(r.L)], r.R[:cap(r.R)])
			l = append(l, r)
		}
		e := slices.Grow([]api.Pair(nil), 60)
		for _, p := range append(slices.Clone(c.e), pair(api.Term{77}, api.Term{77})) {
			p = pair(roomy(p.L), roomy(p.R))
			all = append(all, p.L[:cap(p.L)], p.R[:cap(p.R)])
			e = append(e, p)
		}
		var was [][]int
		for _, x := range all {
			was = append(was, slices.Clone(x))
		}
		wasRules, wasPairs := slices.Clone(l), slices.Clone(e[:cap(e)])
		m, rest, err := Turn(rank, l[:len(c.l)], e[:len(c.e)])
		n, turns, u := Run(rank, e[:len(c.e)])
		if err != api.OK {
			t.Fatalf("Turn(%v, %v): %d", c.l, c.e, err)
		}
		if !reflect.DeepEqual(all, was) || !reflect.DeepEqual(l, wasRules) || !reflect.DeepEqual(e[:cap(e)], wasPairs) {
			t.Fatalf("changed: %v, was %v", all, was)
		}
		for _, x := range all {
			scribble(x)
		}
		clear(l)
		clear(e)
		turned(t, c.l, c.e, m, rest)
		if again, k, v := Run(rising, c.e); !sameRules(n, again) || turns != k || u != v {
			t.Errorf("kept what was handed in: %v %d %d, want %v %d %d", n, turns, u, again, k, v)
		}
	}
}

// lists of an answer, all of them.
func lists(l []api.Rule, e []api.Pair) []api.Term {
	var out []api.Term
	for _, r := range l {
		out = append(out, r.L, r.R)
	}
	for _, p := range e {
		out = append(out, p.L, p.R)
	}
	return out
}

func TestAnswersAreNew(t *testing.T) { // P2
	for _, c := range asked {
		m, rest, err := Turn(rising, c.l, c.e)
		again, more, u := Turn(rising, c.l, c.e)
		if err != api.OK || u != api.OK {
			t.Fatalf("Turn(%v, %v): %d %d", c.l, c.e, err, u)
		}
		got, clean, in := lists(m, rest), lists(again, more), lists(c.l, c.e)
		var was []api.Term
		for _, x := range in {
			was = append(was, slices.Clone(x))
		}
		for k := range got {
			scribble(got[k])
			for i := k + 1; i < len(got); i++ {
				if !slices.Equal(got[i], clean[i]) {
					t.Errorf("Turn(%v, %v): lists %d and %d share memory", c.l, c.e, k, i)
				}
			}
		}
		clear(m[:cap(m)])
		clear(rest[:cap(rest)])
		if !reflect.DeepEqual(lists(c.l, c.e), was) {
			t.Errorf("shared with what was handed in: %v %v", c.l, c.e)
		}
	}
	// What is handed in may share memory.
	one := api.Term{2, 2, -1}
	l, e := []api.Rule{rule(one, one[2:])}, []api.Pair{pair(api.Term{0}, api.Term{0}), pair(one, one), pair(one, one[2:])}
	m, rest, _ := Turn(rising, l, e)
	scribble(m[0].L)
	scribble(rest[0].R)
	if !slices.Equal(m[0].R, api.Term{-1}) || !slices.Equal(rest[0].L, one) || !slices.Equal(rest[1].L, one) || !slices.Equal(one, api.Term{2, 2, -1}) {
		t.Errorf("lists share memory: %v %v %v", m, rest, one)
	}
	var out []api.Rule
	if out, _, _ = Run(rising, e); len(out) != 1 {
		t.Fatalf("Run(%v): %v", e, out)
	}
	scribble(out[0].L)
	if !slices.Equal(out[0].R, api.Term{-1}) || !slices.Equal(one, api.Term{2, 2, -1}) {
		t.Errorf("lists share memory: %v %v", out, one)
	}
}

func TestSameAgain(t *testing.T) { // P3
	ask := func() []any {
		m, rest, err := Turn(rising, asked[2].l, asked[2].e)
		n, turns, u := Run(rising, group()[1:2])
		return []any{m, rest, err, n, turns, u}
	}
	first := ask()
	for range 20 {
		Run(rising, group())
		Run(falling, asked[0].e)
		Turn(nil, nil, nil)
		Turn(rising, ground(), []api.Pair{swap()})
		if again := ask(); !reflect.DeepEqual(first, again) {
			t.Fatalf("first %v, then %v", first, again)
		}
	}
}
