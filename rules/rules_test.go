package rules

import (
	"reflect"
	"slices"
	"testing"

	"hasp/api"
	"hasp/order"
)

var rising, falling = []int{0, 1, 2, 3, 4, 5}, []int{5, 4, 3, 2, 1, 0}

// tower: so many signs, one upon the other, the last one as told.
func tower(n, last int) api.Term {
	return append(slices.Repeat(api.Term{2}, n-1), last)
}

// group: rules of a group, three of them.
func group() []api.Rule {
	return []api.Rule{
		{L: api.Term{4, 0, -1}, R: api.Term{-1}},
		{L: api.Term{4, 2, -1, -1}, R: api.Term{0}},
		{L: api.Term{4, 4, -1, -2, -3}, R: api.Term{4, -1, 4, -2, -3}},
	}
}

// fine: a rule without a fault, so often.
func fine(n int) []api.Rule {
	return slices.Repeat([]api.Rule{{L: api.Term{2, -1}, R: api.Term{-1}}}, n)
}

// draw: numbers that are the same each time.
type draw uint32

func (d *draw) below(n int) int {
	*d = *d*1664525 + 1013904223
	return int(uint32(*d)>>8) % n
}

// drawn term of at most so many signs, with variables from -1 to -vars.
func drawn(d *draw, most, vars int) api.Term {
	kind := d.below(4)
	if most >= 3 && kind > 1 {
		one := drawn(d, most-2, vars)
		return slices.Concat(api.Term{4 + d.below(2)}, one, drawn(d, most-1-len(one), vars))
	}
	if most >= 2 && kind == 1 {
		return slices.Concat(api.Term{2 + d.below(2)}, drawn(d, most-1, vars))
	}
	return api.Term{d.below(vars+2) - vars}
}

var wrongTerms = []struct {
	t    api.Term
	want api.Errno
}{
	{nil, api.ErrForm},
	{api.Term{}, api.ErrForm},
	{api.Term{4, -1}, api.ErrForm},
	{api.Term{-1, -1}, api.ErrForm},
	{api.Term{2}, api.ErrForm},
	{api.Term{6}, api.ErrRange},
	{api.Term{-9}, api.ErrRange},
	{api.Term{4, -9}, api.ErrRange},
	{tower(api.MaxSize+1, -1), api.ErrMany},
	{append(tower(api.MaxSize, -1), 9), api.ErrMany},
	{make(api.Term, 5000), api.ErrMany},
}

// wrongRules: each by itself, and where several errors apply the one that is told first.
var wrongRules = []struct {
	r    api.Rule
	want api.Errno
}{
	{api.Rule{}, api.ErrForm},
	{api.Rule{L: api.Term{2, -5}, R: api.Term{0}}, api.ErrRange},
	{api.Rule{L: api.Term{4, -1, -8}, R: api.Term{-1}}, api.ErrRange},
	{api.Rule{L: api.Term{2, -5}, R: api.Term{-5}}, api.ErrRange},
	{api.Rule{L: api.Term{-1}, R: api.Term{-1}}, api.ErrForm},
	{api.Rule{L: api.Term{-4}, R: api.Term{0}}, api.ErrForm},
	{api.Rule{L: api.Term{2, -1}, R: api.Term{-2}}, api.ErrFree},
	{api.Rule{L: api.Term{0}, R: api.Term{-1}}, api.ErrFree},
	{api.Rule{L: api.Term{4, -1, -3}, R: api.Term{5, -3, 4, -1, -4}}, api.ErrFree},
	// below -Own, and not in L
	{api.Rule{L: api.Term{2, -1}, R: api.Term{-5}}, api.ErrRange},
	{api.Rule{L: api.Term{2, -1}, R: api.Term{4, -2, -8}}, api.ErrRange},
	{api.Rule{L: api.Term{2, -5}, R: api.Term{-1}}, api.ErrRange},
	// below -Own, and L is a variable
	{api.Rule{L: api.Term{-5}, R: api.Term{-5}}, api.ErrRange},
	{api.Rule{L: api.Term{-5}, R: api.Term{0}}, api.ErrRange},
	{api.Rule{L: api.Term{-1}, R: api.Term{-5}}, api.ErrRange},
	// L is a variable, and one is not in L
	{api.Rule{L: api.Term{-1}, R: api.Term{-2}}, api.ErrForm},
	{api.Rule{L: api.Term{-4}, R: api.Term{4, -4, -3}}, api.ErrForm},
	// all three
	{api.Rule{L: api.Term{-6}, R: api.Term{4, -1, -2}}, api.ErrRange},
}

func TestCheck(t *testing.T) { // F1
	for _, l := range [][]api.Rule{
		nil,
		{},
		group(),
		fine(1),
		fine(api.MaxRules),
		{{L: api.Term{0}, R: api.Term{0}}},
		{{L: api.Term{0}, R: api.Term{1}}},
		{{L: api.Term{2, -4}, R: api.Term{-4}}},
		{{L: api.Term{4, -4, 4, -3, 4, -2, -1}, R: api.Term{4, -1, 4, -2, 4, -3, -4}}},
		{{L: api.Term{2, -1}, R: api.Term{2, 2, -1}}},
		{{L: api.Term{4, -1, -2}, R: api.Term{0}}},
		{{L: tower(api.MaxSize, -1), R: tower(api.MaxSize, -1)}},
	} {
		if e := Check(l); e != api.OK {
			t.Errorf("Check(%v): %d", l, e)
		}
	}
}

func TestCheckErrors(t *testing.T) { // F1, P1
	ask := func(want api.Errno, l ...api.Rule) {
		t.Helper()
		refused(t, want, l)
	}
	for _, w := range wrongTerms {
		ask(w.want, api.Rule{L: w.t, R: api.Term{0}})
		ask(w.want, api.Rule{L: api.Term{0}, R: w.t})
		// ahead of all other faults of the rule
		ask(w.want, api.Rule{L: w.t, R: api.Term{-5}})
		ask(w.want, api.Rule{L: api.Term{-5}, R: w.t})
		ask(w.want, api.Rule{L: api.Term{-1}, R: w.t})
		for _, x := range wrongTerms {
			ask(w.want, api.Rule{L: w.t, R: x.t})
		}
		for _, x := range wrongRules {
			ask(w.want, api.Rule{L: api.Term{0}, R: w.t}, x.r)
			ask(x.want, x.r, api.Rule{L: w.t, R: api.Term{0}})
		}
	}
	for _, w := range wrongRules {
		ask(w.want, w.r)
		ask(w.want, append(fine(api.MaxRules-1), w.r)...)
		for _, x := range wrongRules {
			ask(w.want, w.r, x.r)
			ask(w.want, fine(1)[0], w.r, fine(1)[0], x.r)
		}
		ask(api.ErrMany, append(fine(api.MaxRules), w.r)...)
		ask(api.ErrMany, slices.Repeat([]api.Rule{w.r}, api.MaxRules+1)...)
	}
	ask(api.ErrMany, fine(api.MaxRules+1)...)
	ask(api.ErrMany, make([]api.Rule, 5000)...)
}

// refused: each call tells that error of the rules, and nothing else, whatever the term is.
func refused(t *testing.T, want api.Errno, l []api.Rule) {
	t.Helper()
	if e := Check(l); e != want {
		t.Errorf("Check(%v): %d, want %d", l, e, want)
	}
	if is, e := Falls(rising, l); is || e != want {
		t.Errorf("Falls(%v): %v %d, want %d", l, is, e, want)
	}
	for _, one := range []api.Term{{2, 0}, {2}, {9}, nil, tower(api.MaxSize+1, 0)} {
		if got, e := Steps(l, one); len(got) != 0 || e != want {
			t.Errorf("Steps(%v, %v): %v %d, want %d", l, one, got, e, want)
		}
	}
}

func TestFalls(t *testing.T) { // F1
	swap := api.Rule{L: api.Term{4, -1, -2}, R: api.Term{4, -2, -1}}
	down := api.Rule{L: api.Term{3, 2, -1}, R: api.Term{2, 3, -1}}
	for _, c := range []struct {
		rank []int
		l    []api.Rule
		want bool
	}{
		{rising, nil, true},
		{falling, []api.Rule{}, true},
		{rising, group(), true},
		{falling, group(), false}, // a ranks highest then, and nothing with x is above it
		{rising, []api.Rule{down}, true},
		{falling, []api.Rule{down}, false},
		{rising, []api.Rule{swap}, false},
		{rising, append(group(), swap), false},
		{rising, append([]api.Rule{swap}, group()...), false},
		{rising, append(append(group(), swap), group()...), false},
		{rising, fine(api.MaxRules), true},
		{rising, append(fine(api.MaxRules-1), swap), false},
		{rising, []api.Rule{{L: api.Term{2, -1}, R: api.Term{2, -1}}}, false},
		{rising, []api.Rule{{L: api.Term{2, -1}, R: api.Term{2, 2, -1}}}, false},
		{rising, []api.Rule{{L: api.Term{0}, R: api.Term{1}}}, false},
		{falling, []api.Rule{{L: api.Term{0}, R: api.Term{1}}}, true},
		{rising, []api.Rule{{L: tower(api.MaxSize, -4), R: tower(api.MaxSize-1, -4)}}, true},
		{rising, []api.Rule{{L: tower(api.MaxSize-1, -4), R: tower(api.MaxSize, -4)}}, false},
	} {
		if is, e := Falls(c.rank, c.l); is != c.want || e != api.OK {
			t.Errorf("Falls(%v, %v): %v %d, want %v", c.rank, c.l, is, e, c.want)
		}
	}
}

func TestFallsErrors(t *testing.T) { // F1, P1
	for _, r := range []struct {
		rank []int
		want api.Errno
	}{
		{nil, api.ErrForm},
		{[]int{0, 1, 2, 3, 4}, api.ErrForm},
		{[]int{0, 1, 2, 3, 4, 5, 6}, api.ErrForm},
		{[]int{0, 1, 2, 3, 4, 4}, api.ErrRange},
		{[]int{1, 2, 3, 4, 5, 6}, api.ErrRange},
	} {
		for _, l := range [][]api.Rule{nil, group(), fine(api.MaxRules + 1), {{}}, {{L: api.Term{2, -1}, R: api.Term{-2}}}, {{L: api.Term{2, -5}, R: api.Term{0}}}} {
			if is, e := Falls(r.rank, l); is || e != r.want {
				t.Errorf("Falls(%v, %v): %v %d, want %d", r.rank, l, is, e, r.want)
			}
		}
	}
	// A rule that does not fall stands ahead of one with a fault: the fault is told.
	for _, w := range wrongRules {
		l := []api.Rule{{L: api.Term{0}, R: api.Term{1}}, w.r}
		if is, e := Falls(rising, l); is || e != w.want {
			t.Errorf("Falls(%v): %v %d, want %d", l, is, e, w.want)
		}
	}
}

func TestSteps(t *testing.T) { // F2
	for _, c := range []struct {
		l    []api.Rule
		t    api.Term
		want []api.Step
	}{
		{group(), api.Term{4, 4, 0, 1, 0}, []api.Step{{Rule: 2, At: 0, To: api.Term{4, 0, 4, 1, 0}}, {Rule: 0, At: 1, To: api.Term{4, 1, 0}}}},
		{nil, api.Term{4, 4, 0, 1, 0}, nil},
		{group(), api.Term{4, 1, 0}, nil},
		{group(), api.Term{-1}, nil},
		{fine(1), api.Term{-8}, nil},
		{[]api.Rule{{L: api.Term{0}, R: api.Term{1}}}, api.Term{0}, []api.Step{{To: api.Term{1}}}},
		{[]api.Rule{{L: api.Term{0}, R: api.Term{0}}}, api.Term{0}, []api.Step{{To: api.Term{0}}}},
		// at several places
		{[]api.Rule{{L: api.Term{0}, R: api.Term{2, 1}}}, api.Term{4, 4, 0, 0, 5, 1, 0},
			[]api.Step{{At: 2, To: api.Term{4, 4, 2, 1, 0, 5, 1, 0}}, {At: 3, To: api.Term{4, 4, 0, 2, 1, 5, 1, 0}}, {At: 6, To: api.Term{4, 4, 0, 0, 5, 1, 2, 1}}}},
		{[]api.Rule{{L: api.Term{2, 2, -1}, R: api.Term{-1}}}, api.Term{2, 2, 2, 2, -7},
			[]api.Step{{At: 0, To: api.Term{2, 2, -7}}, {At: 1, To: api.Term{2, 2, -7}}, {At: 2, To: api.Term{2, 2, -7}}}},
		// by several rules at one place, of which two are the same
		{[]api.Rule{{L: api.Term{2, -1}, R: api.Term{-1}}, {L: api.Term{3, -1}, R: api.Term{-1}}, {L: api.Term{2, 0}, R: api.Term{1}}, {L: api.Term{2, -1}, R: api.Term{-1}}}, api.Term{2, 0},
			[]api.Step{{Rule: 0, To: api.Term{0}}, {Rule: 2, To: api.Term{1}}, {Rule: 3, To: api.Term{0}}}},
		// by several rules at several places: the place goes ahead
		{[]api.Rule{{L: api.Term{0}, R: api.Term{1}}, {L: api.Term{2, -1}, R: api.Term{-1}}, {L: api.Term{2, 0}, R: api.Term{0}}}, api.Term{5, 2, 0, 2, 1},
			[]api.Step{{Rule: 1, At: 1, To: api.Term{5, 0, 2, 1}}, {Rule: 2, At: 1, To: api.Term{5, 0, 2, 1}}, {Rule: 0, At: 2, To: api.Term{5, 2, 1, 2, 1}}, {Rule: 1, At: 3, To: api.Term{5, 2, 0, 1}}}},
		// variables of the rule are not those of the term
		{[]api.Rule{{L: api.Term{4, -1, -2}, R: api.Term{4, -2, -1}}}, api.Term{4, -2, 4, -1, -2},
			[]api.Step{{At: 0, To: api.Term{4, 4, -1, -2, -2}}, {At: 2, To: api.Term{4, -2, 4, -2, -1}}}},
		{[]api.Rule{{L: api.Term{2, -1}, R: api.Term{5, -1, -1}}}, api.Term{2, 3, -8}, []api.Step{{To: api.Term{5, 3, -8, 3, -8}}}},
		{[]api.Rule{{L: api.Term{5, -4, -3}, R: api.Term{-3}}}, api.Term{5, -3, 2, -4}, []api.Step{{To: api.Term{2, -4}}}},
		// a variable that stands twice in L
		{[]api.Rule{{L: api.Term{5, -1, -1}, R: api.Term{-1}}}, api.Term{4, 5, 2, 0, 2, 0, 5, 0, 1}, []api.Step{{At: 1, To: api.Term{4, 2, 0, 5, 0, 1}}}},
		{[]api.Rule{{L: api.Term{5, -1, -1}, R: api.Term{-1}}}, api.Term{5, -1, -2}, nil},
		// a symbol does not fit a variable
		{[]api.Rule{{L: api.Term{4, 0, -1}, R: api.Term{-1}}}, api.Term{4, -1, 0}, nil},
		{[]api.Rule{{L: tower(api.MaxSize, 0), R: api.Term{1}}}, tower(api.MaxSize, 0), []api.Step{{To: api.Term{1}}}},
	} {
		if got, e := Steps(c.l, c.t); len(got)+len(c.want) > 0 && !reflect.DeepEqual(got, c.want) || e != api.OK {
			t.Errorf("Steps(%v, %v): %v %d, want %v", c.l, c.t, got, e, c.want)
		}
	}
}

func TestStepsOfWrongTerms(t *testing.T) { // F2, P1
	for _, w := range wrongTerms {
		for _, l := range [][]api.Rule{nil, group(), fine(api.MaxRules)} {
			if got, e := Steps(l, w.t); len(got) != 0 || e != w.want {
				t.Errorf("Steps(%v, %v): %v %d, want %d", l, w.t, got, e, w.want)
			}
		}
	}
}

func TestHowLargeStepsAre(t *testing.T) { // F2
	grow := api.Rule{L: api.Term{3, -1}, R: api.Term{4, -1, -1}}
	wrap := api.Rule{L: api.Term{0}, R: api.Term{2, 0}}
	tall := api.Rule{L: api.Term{1}, R: tower(api.MaxSize, 1)}
	flip := api.Rule{L: api.Term{1}, R: api.Term{0}}
	for _, c := range []struct {
		l    []api.Rule
		t    api.Term
		want int // signs of each step's term; 0: one is too large
	}{
		{[]api.Rule{wrap}, tower(api.MaxSize-1, 0), api.MaxSize},
		{[]api.Rule{wrap}, tower(api.MaxSize, 0), 0},
		{[]api.Rule{wrap}, slices.Concat(api.Term{4, 0}, tower(api.MaxSize-3, 0)), api.MaxSize},
		{[]api.Rule{wrap}, slices.Concat(api.Term{4, 0}, tower(api.MaxSize-2, 0)), 0},
		{[]api.Rule{grow}, slices.Concat(api.Term{2, 3}, tower(14, 0)), api.MaxSize},
		{[]api.Rule{grow}, slices.Concat(api.Term{2, 2, 3}, tower(14, 0)), 0},
		{[]api.Rule{grow}, slices.Concat(api.Term{3}, tower(14, 0)), api.MaxSize - 1},
		{[]api.Rule{grow}, slices.Concat(api.Term{3}, tower(15, 0)), 0}, // what R becomes is too large by itself
		{[]api.Rule{tall}, api.Term{1}, api.MaxSize},
		{[]api.Rule{tall}, api.Term{2, 1}, 0},
		// one of several: the last one, or another
		{[]api.Rule{flip, wrap}, slices.Concat(api.Term{4, 1}, tower(api.MaxSize-2, 0)), 0},
		{[]api.Rule{flip, wrap}, slices.Concat(api.Term{4}, tower(api.MaxSize-2, 0), api.Term{1}), 0},
		{[]api.Rule{flip, tall}, api.Term{2, 1}, 0},
		{[]api.Rule{tall, flip}, api.Term{2, 1}, 0},
		{[]api.Rule{flip, wrap}, slices.Concat(api.Term{4, 1}, tower(api.MaxSize-2, 1)), api.MaxSize},
	} {
		got, e := Steps(c.l, c.t)
		if c.want == 0 {
			if len(got) != 0 || e != api.ErrMany {
				t.Errorf("Steps(%v, %v): %v %d, want %d", c.l, c.t, got, e, api.ErrMany)
			}
			continue
		}
		if len(got) == 0 || e != api.OK {
			t.Errorf("Steps(%v, %v): %v %d", c.l, c.t, got, e)
		}
		for _, s := range got {
			if len(s.To) != c.want {
				t.Errorf("Steps(%v, %v): %v has %d signs, want %d", c.l, c.t, s.To, len(s.To), c.want)
			}
		}
	}
}

// tree: a sign and its parts.
type tree struct {
	sign  int
	parts []tree
}

// sprout: the first tree of a list, and what stands behind it.
func sprout(t api.Term) (tree, api.Term) {
	out, rest := tree{sign: t[0]}, t[1:]
	for range max(0, t[0]/2) {
		var part tree
		part, rest = sprout(rest)
		out.parts = append(out.parts, part)
	}
	return out, rest
}

// flat: the tree as a list, its variables bound.
func flat(t tree, bound map[int]tree) api.Term {
	if b, ok := bound[t.sign]; ok {
		return flat(b, nil)
	}
	out := api.Term{t.sign}
	for _, part := range t.parts {
		out = append(out, flat(part, bound)...)
	}
	return out
}

// bind the variables of p, that it is t.
func bind(p, t tree, bound map[int]tree) bool {
	if p.sign < 0 {
		if b, ok := bound[p.sign]; ok {
			return reflect.DeepEqual(b, t)
		}
		bound[p.sign] = t
		return true
	}
	if p.sign != t.sign {
		return false
	}
	for k := range p.parts {
		if !bind(p.parts[k], t.parts[k], bound) {
			return false
		}
	}
	return true
}

// slow: all steps, however large, by trees.
func slow(l []api.Rule, t api.Term) []api.Step {
	var out []api.Step
	for at := range t {
		part, rest := sprout(t[at:])
		for k, r := range l {
			left, _ := sprout(r.L)
			right, _ := sprout(r.R)
			if bound := (map[int]tree{}); bind(left, part, bound) {
				out = append(out, api.Step{Rule: k, At: at, To: slices.Concat(t[:at], flat(right, bound), rest)})
			}
		}
	}
	return out
}

// drawnRules that Check finds no fault with.
func drawnRules(d *draw) []api.Rule {
	var l []api.Rule
	for want := 1 + d.below(api.MaxRules); len(l) < want; {
		r := api.Rule{L: drawn(d, 4, 3), R: drawn(d, 6, 3)}
		if Check([]api.Rule{r}) == api.OK {
			l = append(l, r)
		}
	}
	return l
}

func TestStepsAreThoseOfTheSlowWay(t *testing.T) { // F2
	d := draw(41)
	var some, several, many int
	for range 4000 {
		l, one := drawnRules(&d), drawn(&d, 3+d.below(api.MaxSize-2), api.Vars)
		want := slow(l, one)
		got, e := Steps(l, one)
		if slices.ContainsFunc(want, func(s api.Step) bool { return len(s.To) > api.MaxSize }) {
			many++
			if len(got) != 0 || e != api.ErrMany {
				t.Fatalf("Steps(%v, %v): %v %d, one is too large", l, one, got, e)
			}
			continue
		}
		if len(got)+len(want) > 0 && !reflect.DeepEqual(got, want) || e != api.OK {
			t.Fatalf("Steps(%v, %v): %v %d, want %v", l, one, got, e, want)
		}
		if len(want) > 0 {
			some++
		}
		if len(want) > 1 {
			several++
		}
	}
	if some < 1000 || several < 500 || many < 20 {
		t.Errorf("%d have steps, %d several, %d too large", some, several, many)
	}
}

func TestStepsOfRulesThatFallGoBelow(t *testing.T) { // F1, F2
	d := draw(43)
	steps := 0
	for range 20000 {
		l, one := drawnRules(&d)[:1], drawn(&d, 12, 4)
		if is, e := Falls(falling, l); !is || e != api.OK {
			continue
		}
		got, e := Steps(l, one)
		if e == api.ErrMany {
			continue
		}
		for _, s := range got {
			steps++
			if is, e := order.Above(falling, one, s.To); !is || e != api.OK {
				t.Fatalf("%v by %v: %v is not below", one, l[s.Rule], s.To)
			}
		}
	}
	if steps < 500 {
		t.Errorf("only %d steps", steps)
	}
}

// roomy: the list with spare room behind it, in which each number is 77.
func roomy(l []int) []int {
	return append(slices.Clone(l), slices.Repeat([]int{77}, 40)...)[:len(l)]
}

// scribble over a list and the spare room behind it.
func scribble(l []int) {
	l = l[:cap(l)]
	for k := range l {
		l[k] = 55
	}
}

func TestOnlyRead(t *testing.T) { // P2
	rank, one := roomy(rising), roomy([]int{4, 4, 0, 1, 0})
	all := [][]int{rank[:cap(rank)], one[:cap(one)]}
	var l []api.Rule
	for _, r := range group() {
		r = api.Rule{L: roomy(r.L), R: roomy(r.R)}
		all = append(all, r.L[:cap(r.L)], r.R[:cap(r.R)])
		l = append(l, r)
	}
	spare := api.Rule{L: api.Term{77}, R: api.Term{77}}
	l = append(l, spare)[:len(l)]
	var was [][]int
	for _, x := range all {
		was = append(was, slices.Clone(x))
	}
	got, e := Steps(l, one)
	is, u := Falls(rank, l)
	if !is || u != api.OK || e != api.OK || Check(l) != api.OK {
		t.Fatalf("%v %d %d", is, u, e)
	}
	if !reflect.DeepEqual(all, was) || !reflect.DeepEqual(l[:len(l)+1][len(l)], spare) {
		t.Fatalf("changed: %v, was %v", all, was)
	}
	for _, x := range all {
		scribble(x)
	}
	want := []api.Step{{Rule: 2, At: 0, To: api.Term{4, 0, 4, 1, 0}}, {Rule: 0, At: 1, To: api.Term{4, 1, 0}}}
	if !reflect.DeepEqual(got, want) {
		t.Errorf("kept what was handed in: %v", got)
	}
}

func TestAnswersAreNew(t *testing.T) { // P2
	l := []api.Rule{{L: api.Term{0}, R: api.Term{1}}, {L: api.Term{0}, R: api.Term{1}}, {L: api.Term{2, -1}, R: api.Term{-1}}}
	one := api.Term{2, 0}
	got, _ := Steps(l, one)
	want, _ := Steps(l, one)
	for k := range got {
		scribble(got[k].To)
		for i := k + 1; i < len(got); i++ {
			if !reflect.DeepEqual(got[i], want[i]) {
				t.Errorf("%d and %d share memory", k, i)
			}
		}
	}
	if again, _ := Steps(l, one); !slices.Equal(one, api.Term{2, 0}) || !reflect.DeepEqual(again, want) {
		t.Errorf("shared with what was handed in: %v %v", one, l)
	}
}

func TestSameAgain(t *testing.T) { // P3
	l, one := group(), api.Term{4, 4, 4, 0, 0, 4, 2, 1, 1, 0}
	ask := func() []any {
		is, e := Falls(rising, l)
		s, u := Steps(l, one)
		return []any{Check(l), is, e, s, u}
	}
	first := ask()
	for range 20 {
		Falls(falling, l)
		Steps(fine(1), tower(9, 0))
		Steps(l, nil)
		Check(fine(api.MaxRules + 1))
		if again := ask(); !reflect.DeepEqual(first, again) {
			t.Fatalf("first %v, then %v", first, again)
		}
	}
}
