package lean

import (
	"reflect"
	"slices"
	"testing"

	"hasp/api"
	"hasp/rules"
	"hasp/sub"
	"hasp/term"
	"hasp/unify"
)

// tower: so many signs, one upon the other, the last one as told.
func tower(n, last int) api.Term {
	return append(slices.Repeat(api.Term{2}, n-1), last)
}

// group: rules of a group, three of them.
func group() []api.Rule {
	return []api.Rule{
		{L: api.Term{4, 0, -1}, R: api.Term{-1}},
		{L: api.Term{4, 2, -1, -1}, R: api.Term{0}},
		{L: api.Term{4, 4, -1, -2, -3}, R: api.Term{4, -1, 4, -2, -3}},
	}
}

func rule(l, r api.Term) api.Rule { return api.Rule{L: l, R: r} }

type become map[int]api.Term

// lean by which variables become what is told, each other one itself.
func lean(rule, at int, b become, to api.Term) api.Lean {
	s := sub.None()
	for v, t := range b {
		s[-1-v] = t
	}
	return api.Lean{Rule: rule, At: at, Sub: s, To: to}
}

// draw: numbers that are the same each time.
type draw uint32

func (d *draw) below(n int) int {
	*d = *d*1664525 + 1013904223
	return int(uint32(*d)>>8) % n
}

// drawn term of at most so many signs, with variables from -1 to -vars.
func drawn(d *draw, most, vars int) api.Term {
	kind := d.below(4)
	if most >= 3 && kind > 1 {
		one := drawn(d, most-2, vars)
		return slices.Concat(api.Term{4 + d.below(2)}, one, drawn(d, most-1-len(one), vars))
	}
	if most >= 2 && kind == 1 {
		return slices.Concat(api.Term{2 + d.below(2)}, drawn(d, most-1, vars))
	}
	return api.Term{d.below(vars+2) - vars}
}

// drawnRules: a few that rules.Check finds good.
func drawnRules(d *draw) []api.Rule {
	var l []api.Rule
	for many := d.below(5); len(l) < many; {
		r := rule(drawn(d, 7, 4), drawn(d, 7, 4))
		if rules.Check([]api.Rule{r}) == api.OK {
			l = append(l, r)
		}
	}
	return l
}

// same leans; an empty list may be nil or not.
func same(a, b []api.Lean) bool {
	return len(a)+len(b) == 0 || reflect.DeepEqual(a, b)
}

func leansSo(t *testing.T, l []api.Rule, one api.Term, want ...api.Lean) {
	t.Helper()
	if got, e := All(l, one); !same(got, want) || e != api.OK {
		t.Errorf("All(%v, %v): %v %d, want %v", l, one, got, e, want)
	}
}

func refused(t *testing.T, want api.Errno, l []api.Rule, one api.Term) {
	t.Helper()
	if got, e := All(l, one); len(got) != 0 || e != want {
		t.Errorf("All(%v, %v): %v %d, want error %d", l, one, got, e, want)
	}
}

func TestAll(t *testing.T) { // K1
	// f(x,a)
	leansSo(t, group(), api.Term{4, -1, 0},
		lean(0, 0, become{-1: {0}, -5: {0}}, api.Term{0}),
		lean(1, 0, become{-1: {2, 0}, -5: {0}}, api.Term{0}),
		lean(2, 0, become{-1: {4, -5, -6}, -7: {0}}, api.Term{4, -5, 4, -6, 0}))
	// a rule that fits: nothing of t becomes another one
	ends := rule(api.Term{2, 0}, api.Term{1})
	leansSo(t, []api.Rule{ends}, api.Term{2, 0}, lean(0, 0, nil, api.Term{1}))
	leansSo(t, []api.Rule{ends}, api.Term{5, -4, 2, 0}, lean(0, 2, nil, api.Term{5, -4, 1}))
	// what stands elsewhere in t becomes another one, too
	leansSo(t, []api.Rule{ends}, api.Term{4, -1, 2, -1}, lean(0, 2, become{-1: {0}}, api.Term{4, 0, 1}))
	leansSo(t, []api.Rule{ends}, api.Term{4, 2, -3, 5, -3, -4}, lean(0, 1, become{-3: {0}}, api.Term{4, 1, 5, 0, -4}))
	// the rule's variables have nothing to do with those of t: -1 to -4 become -5 to -8
	leansSo(t, []api.Rule{rule(api.Term{3, 2, -1}, api.Term{2, 3, -1})}, api.Term{3, -1}, lean(0, 0, become{-1: {2, -5}}, api.Term{2, 3, -5}))
	leansSo(t, []api.Rule{rule(api.Term{4, -4, 2, -3}, api.Term{5, -3, -4})}, api.Term{4, 0, -4}, lean(0, 0, become{-4: {2, -7}, -8: {0}}, api.Term{5, -7, 0}))
	leansSo(t, []api.Rule{rule(api.Term{3, -2}, api.Term{-2})}, api.Term{3, 3, -2},
		lean(0, 0, become{-6: {3, -2}}, api.Term{3, -2}),
		lean(0, 1, become{-6: {-2}}, api.Term{3, -2}))
	// two of t that must be the same
	leansSo(t, []api.Rule{rule(api.Term{5, -1, -1}, api.Term{-1})}, api.Term{5, -4, -3}, lean(0, 0, become{-4: {-3}, -5: {-3}}, api.Term{-3}))
	leansSo(t, []api.Rule{rule(api.Term{5, -1, -1}, api.Term{-1})}, api.Term{4, 5, 2, -2, -1, -1}, lean(0, 1, become{-1: {2, -2}, -5: {2, -2}}, api.Term{4, 2, -2, 2, -2}))
	// a rule that forgets
	leansSo(t, []api.Rule{rule(api.Term{4, -1, -2}, api.Term{0})}, api.Term{2, 4, -2, 1}, lean(0, 1, become{-5: {-2}, -6: {1}}, api.Term{2, 0}))
	// rules without variables
	leansSo(t, []api.Rule{rule(api.Term{0}, api.Term{3, 1})}, api.Term{4, 0, 0},
		lean(0, 1, nil, api.Term{4, 3, 1, 0}),
		lean(0, 2, nil, api.Term{4, 0, 3, 1}))
}

func TestWhereNothingLeans(t *testing.T) { // K1
	// no rules
	for _, l := range [][]api.Rule{nil, {}} {
		leansSo(t, l, api.Term{4, -1, 0})
	}
	// a variable would meet whatever there is, but is passed over
	for v := range api.Own {
		leansSo(t, group(), api.Term{-1 - v})
	}
	leansSo(t, []api.Rule{rule(api.Term{2, 0}, api.Term{1})}, api.Term{4, -1, 5, -2, -3})
	// other symbols
	leansSo(t, group(), api.Term{0})
	leansSo(t, group(), api.Term{5, 2, 0, 3, -1})
	leansSo(t, []api.Rule{rule(api.Term{2, 0}, api.Term{1})}, api.Term{2, 1})
	// one that would stand within itself
	leansSo(t, []api.Rule{rule(api.Term{5, -1, 2, -1}, api.Term{0})}, api.Term{5, -2, -2})
	leansSo(t, []api.Rule{rule(api.Term{4, 2, -1, -1}, api.Term{0})}, api.Term{4, -1, 2, -1})
}

func TestByPlaceThenByRule(t *testing.T) { // K1
	l := []api.Rule{
		rule(api.Term{2, 0}, api.Term{1}),
		rule(api.Term{4, -1, -2}, api.Term{-2}),
		rule(api.Term{2, -1}, api.Term{-1}),
		rule(api.Term{2, 0}, api.Term{1}),
	}
	leansSo(t, l, api.Term{4, 2, 0, 2, -1},
		lean(1, 0, become{-5: {2, 0}, -6: {2, -1}}, api.Term{2, -1}),
		lean(0, 1, nil, api.Term{4, 1, 2, -1}),
		lean(2, 1, become{-5: {0}}, api.Term{4, 0, 2, -1}),
		lean(3, 1, nil, api.Term{4, 1, 2, -1}),
		lean(0, 3, become{-1: {0}}, api.Term{4, 2, 0, 1}),
		lean(2, 3, become{-5: {-1}}, api.Term{4, 2, 0, -1}),
		lean(3, 3, become{-1: {0}}, api.Term{4, 2, 0, 1}))
	// as many rules and places as there may be
	many := slices.Repeat([]api.Rule{rule(api.Term{2, -1}, api.Term{-1})}, api.MaxRules)
	got, e := All(many, tower(api.MaxSize, -1))
	if len(got) != api.MaxRules*(api.MaxSize-1) || e != api.OK {
		t.Fatalf("%d leans, error %d", len(got), e)
	}
	for k, one := range got {
		if one.At != k/api.MaxRules || one.Rule != k%api.MaxRules {
			t.Errorf("lean %d is that of rule %d at %d", k, one.Rule, one.At)
		}
	}
}

// wrongTerms: each with its error.
func wrongTerms() map[api.Errno][]api.Term {
	return map[api.Errno][]api.Term{
		api.ErrMany:  {tower(api.MaxSize+1, 0), slices.Repeat(api.Term{99}, 31), slices.Repeat(api.Term{-5}, 31)},
		api.ErrRange: {{6}, {-9}, {2, -1 << 62}, {4, 1 << 62}, {-9, -5}},
		api.ErrForm:  {nil, {}, {2}, {4, 0}, {0, 0}, {-1, -1}, {2, 0, -5}, {-5, -5}},
	}
}

func TestErrors(t *testing.T) { // K1, P1
	wrongRules := map[api.Errno][]api.Rule{
		api.ErrMany:  slices.Repeat(group()[:1], api.MaxRules+1),
		api.ErrRange: {rule(api.Term{2, -5}, api.Term{0})},
		api.ErrForm:  {group()[0], rule(api.Term{-1}, api.Term{0})},
		api.ErrFree:  {group()[0], rule(api.Term{2, -1}, api.Term{-2})},
	}
	for e, bad := range wrongTerms() {
		for _, one := range bad {
			refused(t, e, group(), one)
			refused(t, e, nil, one)
			// rules.Check's errors come first
			for f, l := range wrongRules {
				refused(t, f, l, one)
			}
			refused(t, e, []api.Rule{rule(api.Term{2, 0}, tower(api.MaxSize, 0))}, one)
		}
	}
	for f, l := range wrongRules {
		refused(t, f, l, api.Term{4, -1, 0})
		refused(t, f, l, api.Term{2, -5})
	}
	refused(t, api.ErrForm, []api.Rule{{}}, api.Term{0})
}

func TestVariablesOfItsOwn(t *testing.T) { // K1
	for v := range api.Vars {
		for _, one := range []api.Term{{-1 - v}, {2, -1 - v}, {4, -1 - v, 0}, {4, 5, 0, -1, 4, -1 - v, -2}} {
			if v < api.Own {
				if _, e := All(group(), one); e != api.OK {
					t.Errorf("All(%v): error %d", one, e)
				}
				continue
			}
			refused(t, api.ErrRange, group(), one)
			refused(t, api.ErrRange, nil, one)
			// ahead of what would be too large
			refused(t, api.ErrRange, []api.Rule{rule(api.Term{2, -1}, tower(api.MaxSize, 0))}, slices.Concat(api.Term{4, 2, 0}, one))
		}
	}
}

func TestHowLargeLeansAre(t *testing.T) { // K1
	twice := rule(api.Term{3, -1}, api.Term{4, -1, -1})
	for _, c := range []struct {
		l    []api.Rule
		t    api.Term
		want api.Errno
	}{
		// by what variables of the rule become
		{[]api.Rule{twice}, slices.Concat(api.Term{3}, tower(14, 0)), api.OK},
		{[]api.Rule{twice}, slices.Concat(api.Term{3}, tower(15, 0)), api.ErrMany},
		{[]api.Rule{twice}, slices.Concat(api.Term{2, 3}, tower(14, -1)), api.OK},
		{[]api.Rule{twice}, slices.Concat(api.Term{2, 2, 3}, tower(14, -1)), api.ErrMany},
		// by what is put
		{[]api.Rule{rule(api.Term{0}, api.Term{1})}, tower(api.MaxSize, 0), api.OK},
		{[]api.Rule{rule(api.Term{0}, api.Term{2, 1})}, tower(api.MaxSize-1, 0), api.OK},
		{[]api.Rule{rule(api.Term{0}, api.Term{2, 1})}, tower(api.MaxSize, 0), api.ErrMany},
		{[]api.Rule{rule(api.Term{2, 0}, tower(api.MaxSize, 1))}, api.Term{2, -1}, api.OK},
		{[]api.Rule{rule(api.Term{2, 0}, tower(api.MaxSize, 1))}, api.Term{3, 2, -1}, api.ErrMany},
		// by what variables of t become, beside the place
		{[]api.Rule{rule(slices.Concat(api.Term{3}, tower(14, 0)), api.Term{1})}, api.Term{4, 3, -1, 4, -1, 4, -1, 1}, api.ErrMany},
		{[]api.Rule{rule(slices.Concat(api.Term{3}, tower(13, 0)), api.Term{1})}, api.Term{4, 3, -1, 4, -1, -1}, api.OK},
		{[]api.Rule{rule(slices.Concat(api.Term{3}, tower(13, 0)), api.Term{1})}, api.Term{4, 3, -1, 4, -1, 3, -1}, api.OK},
		{[]api.Rule{rule(slices.Concat(api.Term{3}, tower(14, 0)), api.Term{1})}, api.Term{4, 3, -1, 4, -1, 3, -1}, api.ErrMany},
		// unify tells it: y becomes so large, though nothing of it stays
		{[]api.Rule{rule(slices.Concat(api.Term{4, -1}, tower(16, -1)), api.Term{1})}, slices.Concat(api.Term{4}, tower(15, 0), api.Term{-2}), api.OK},
		{[]api.Rule{rule(slices.Concat(api.Term{4, -1}, tower(17, -1)), api.Term{1})}, slices.Concat(api.Term{4}, tower(15, 0), api.Term{-2}), api.ErrMany},
		// a later rule, or a later place, is enough
		{[]api.Rule{rule(api.Term{0}, api.Term{1}), rule(api.Term{0}, api.Term{2, 1})}, tower(api.MaxSize, 0), api.ErrMany},
		{[]api.Rule{rule(api.Term{0}, api.Term{2, 1}), rule(api.Term{0}, api.Term{1})}, tower(api.MaxSize, 0), api.ErrMany},
		{[]api.Rule{rule(api.Term{2, -1}, api.Term{-1}), rule(api.Term{0}, api.Term{2, 1})}, tower(api.MaxSize, 0), api.ErrMany},
		// what does not meet is not too large
		{[]api.Rule{rule(api.Term{1}, tower(api.MaxSize, 0))}, tower(api.MaxSize, 0), api.OK},
	} {
		got, e := All(c.l, c.t)
		if e != c.want || (len(got) != 0) != (e == api.OK && c.l[0].L[0] != 1) {
			t.Errorf("All(%v, %v): %v %d, want error %d", c.l, c.t, got, e, c.want)
		}
	}
	// How large t itself becomes by Sub is not asked.
	wide := rule(slices.Concat(api.Term{4}, tower(20, -1), api.Term{-2}), api.Term{0})
	leansSo(t, []api.Rule{wide}, api.Term{4, -1, -1}, lean(0, 0, become{-1: tower(20, -5), -6: tower(20, -5)}, api.Term{0}))
}

// asked: the leans by the calls ahead, place by place and rule by rule.
func asked(l []api.Rule, t api.Term) ([]api.Lean, api.Errno) {
	others := []api.Term{{-5}, {-6}, {-7}, {-8}, {-1}, {-2}, {-3}, {-4}}
	var out []api.Lean
	for at, sign := range t {
		for k, r := range l {
			part, _ := term.Part(t, at)
			left, _ := sub.Apply(others, r.L)
			right, _ := sub.Apply(others, r.R)
			s, is, e := unify.Meet(left, part)
			if sign < 0 || !is && e == api.OK {
				continue
			}
			if e != api.OK {
				return nil, e
			}
			put, e := term.Put(t, at, right)
			if e != api.OK {
				return nil, e
			}
			to, e := sub.Apply(s, put)
			if e != api.OK {
				return nil, e
			}
			out = append(out, api.Lean{Rule: k, At: at, Sub: s, To: to})
		}
	}
	return out, api.OK
}

func TestAllIsWhatTheCallsAheadTell(t *testing.T) { // K1
	d := draw(71)
	var found, large int
	for range 3000 {
		l, one := drawnRules(&d), drawn(&d, 4+d.below(26), api.Own)
		want, f := asked(l, one)
		if got, e := All(l, one); !same(got, want) || e != f {
			t.Fatalf("All(%v, %v): %v %d, want %v %d", l, one, got, e, want, f)
		}
		found += len(want)
		large += int(f)
	}
	if found < 1000 || large < 20 {
		t.Errorf("%d leans, %d", found, large)
	}
}

// stepTo: is there a step of that rule, at that place, of what t becomes by Sub, to To? The other rules are left out: their steps may be too large.
func stepTo(t *testing.T, r api.Rule, one api.Term, by api.Lean) bool {
	at, e := sub.Apply(by.Sub, one)
	if e == api.ErrMany {
		return false
	}
	// A place of t is that of its part in what t becomes, once what stands ahead has become larger.
	ahead := 0
	for _, sign := range one[:by.At] {
		if sign < 0 {
			ahead += len(by.Sub[-1-sign]) - 1
		}
	}
	steps, e := rules.Steps([]api.Rule{r}, at)
	if e == api.ErrMany {
		return false
	}
	for _, s := range steps {
		if s.At == by.At+ahead && slices.Equal(s.To, by.To) {
			return true
		}
	}
	t.Errorf("%v leans by %v so: %v; but there is no such step of %v", one, r, by, at)
	return false
}

func TestALeanIsAStep(t *testing.T) { // K2
	d := draw(72)
	gone := 0
	for range 3000 {
		l, one := drawnRules(&d), drawn(&d, 4+d.below(10), api.Own)
		got, _ := All(l, one)
		for _, by := range got {
			if e := sub.Check(by.Sub); e != api.OK {
				t.Fatalf("%v is no list: error %d", by.Sub, e)
			}
			if stepTo(t, l[by.Rule], one, by) {
				gone++
			}
		}
	}
	if gone < 1000 {
		t.Errorf("only %d", gone)
	}
}

// A step is a lean, too, by which no variable of t becomes another one.
func TestAStepIsALean(t *testing.T) { // K1
	d := draw(73)
	var found int
	for range 2000 {
		l, one := drawnRules(&d), drawn(&d, 4+d.below(10), api.Own)
		got, e := All(l, one)
		if e != api.OK {
			continue
		}
		steps, _ := rules.Steps(l, one)
		for _, s := range steps {
			found++
			if !slices.ContainsFunc(got, func(by api.Lean) bool {
				return by.Rule == s.Rule && by.At == s.At && slices.Equal(by.To, s.To) && reflect.DeepEqual(by.Sub[:api.Own], sub.None()[:api.Own])
			}) {
				t.Errorf("%v has the step %v by %v, but leans %v", one, s, l, got)
			}
		}
	}
	if found < 200 {
		t.Errorf("only %d", found)
	}
}

// roomy: the same list, with room behind it in which something stands.
func roomy(l []int) []int {
	return append(slices.Clone(l), 77, 77, 77)[:len(l)]
}

func TestOnlyRead(t *testing.T) { // P2
	l := group()
	for k, r := range l {
		l[k] = rule(roomy(r.L), roomy(r.R))
	}
	l = append(l, rule(api.Term{77}, nil))[:len(l)]
	one := api.Term(roomy([]int{4, 4, -1, 0, -2}))
	if _, e := All(l, one); e != api.OK {
		t.Fatal(e)
	}
	if !reflect.DeepEqual(l, group()) || !slices.Equal(one[:8], []int{4, 4, -1, 0, -2, 77, 77, 77}) || l[:4][3].L[0] != 77 {
		t.Errorf("changed: %v, %v", l, one)
	}
	for k, r := range group() {
		if !slices.Equal(l[k].L[len(r.L):][:3], []int{77, 77, 77}) || !slices.Equal(l[k].R[len(r.R):][:3], []int{77, 77, 77}) {
			t.Errorf("the room behind rule %d is changed", k)
		}
	}
}

// scribble over a list, and over the room behind it.
func scribble(l []int) {
	for k := range l[:cap(l)] {
		l[:cap(l)][k] = 55
	}
}

func TestAnswersAreNew(t *testing.T) { // P2
	l, one := group(), api.Term{4, 4, -1, 0, -2}
	want, _ := All(l, one)
	got, _ := All(l, one)
	if !same(got, want) || len(got) < 4 {
		t.Fatalf("All: %v, then %v", want, got)
	}
	for k := range got {
		for v := range got[k].Sub {
			scribble(got[k].Sub[v])
			got[k].Sub[v] = want[k].Sub[v]
			if !same(got, want) {
				t.Fatalf("Sub %d of lean %d shares memory", v, k)
			}
		}
		scribble(got[k].To)
		got[k].To = want[k].To
		clear(got[k].Sub[:cap(got[k].Sub)])
		got[k].Sub = want[k].Sub
		if !same(got, want) {
			t.Fatalf("lean %d shares memory", k)
		}
	}
	if !reflect.DeepEqual(l, group()) || !slices.Equal(one, api.Term{4, 4, -1, 0, -2}) {
		t.Errorf("what was handed in is changed: %v, %v", l, one)
	}
}

func TestSameAgain(t *testing.T) { // P3
	d := draw(74)
	for range 300 {
		l, one := drawnRules(&d), drawn(&d, 12, api.Own)
		a, e := All(l, one)
		All(group(), api.Term{4, -1, 0})
		All(nil, nil)
		if b, f := All(l, one); !same(a, b) || e != f {
			t.Fatalf("All(%v, %v): %v %d, then %v %d", l, one, a, e, b, f)
		}
	}
}
