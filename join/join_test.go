package join

import (
	"reflect"
	"slices"
	"testing"

	"hasp/api"
	"hasp/norm"
	"hasp/pairs"
	"hasp/rules"
)

var rising = []int{0, 1, 2, 3, 4, 5}

// tower: so many signs, one upon the other, the last one as told.
func tower(n, last int) api.Term {
	return append(slices.Repeat(api.Term{2}, n-1), last)
}

// group: rules of a group, three of them.
func group() []api.Rule {
	return []api.Rule{
		{L: api.Term{4, 0, -1}, R: api.Term{-1}},
		{L: api.Term{4, 2, -1, -1}, R: api.Term{0}},
		{L: api.Term{4, 4, -1, -2, -3}, R: api.Term{4, -1, 4, -2, -3}},
	}
}

// endless: h grows, whatever is in it.
func endless() api.Rule { return api.Rule{L: api.Term{3, -1}, R: api.Term{3, 3, -1}} }

// shorten: so many of the symbol, one upon the other, go away.
func shorten(symbol, n int) api.Rule {
	return api.Rule{L: append(slices.Repeat(api.Term{symbol}, n), -1), R: api.Term{-1}}
}

// draw: numbers that are the same each time.
type draw uint32

func (d *draw) below(n int) int {
	*d = *d*1664525 + 1013904223
	return int(uint32(*d)>>8) % n
}

// drawn term of at most so many signs, with variables from -1 to -vars.
func drawn(d *draw, most, vars int) api.Term {
	kind := d.below(4)
	if most >= 3 && kind > 1 {
		one := drawn(d, most-2, vars)
		return slices.Concat(api.Term{4 + d.below(2)}, one, drawn(d, most-1-len(one), vars))
	}
	if most >= 2 && kind == 1 {
		return slices.Concat(api.Term{2 + d.below(2)}, drawn(d, most-1, vars))
	}
	return api.Term{d.below(vars+2) - vars}
}

func TestPair(t *testing.T) { // I1
	for _, c := range []struct {
		l    []api.Rule
		p    api.Pair
		want bool
	}{
		{nil, api.Pair{L: api.Term{4, -1, 0}, R: api.Term{4, -1, 0}}, true},
		{nil, api.Pair{L: api.Term{4, -1, 0}, R: api.Term{4, -2, 0}}, false},
		{nil, api.Pair{L: api.Term{-8}, R: api.Term{-8}}, true},
		{nil, api.Pair{L: api.Term{0}, R: api.Term{1}}, false},
		{nil, api.Pair{L: tower(api.MaxSize, 0), R: tower(api.MaxSize, 0)}, true},
		{nil, api.Pair{L: tower(api.MaxSize, 0), R: tower(api.MaxSize-1, 0)}, false},
		{group(), api.Pair{L: api.Term{4, 4, 0, 1, 0}, R: api.Term{4, 1, 0}}, true},
		{group(), api.Pair{L: api.Term{4, 1, 0}, R: api.Term{4, 4, 0, 1, 0}}, true},
		{group(), api.Pair{L: api.Term{4, 2, 1, 1}, R: api.Term{4, 0, 0}}, true},
		{group(), api.Pair{L: api.Term{4, 0, 1}, R: api.Term{0}}, false},
		{group(), api.Pair{L: api.Term{4, 1, 2, 1}, R: api.Term{0}}, false},
		{group(), api.Pair{L: api.Term{4, 0, -6}, R: api.Term{-6}}, true},
		{group(), api.Pair{L: api.Term{4, 0, -6}, R: api.Term{-5}}, false},
		// The Form is asked, not whether some steps would lead there.
		{[]api.Rule{{L: api.Term{0}, R: api.Term{1}}, {L: api.Term{0}, R: api.Term{2, 1}}}, api.Pair{L: api.Term{0}, R: api.Term{2, 1}}, false},
		{[]api.Rule{{L: api.Term{0}, R: api.Term{1}}, {L: api.Term{0}, R: api.Term{2, 1}}}, api.Pair{L: api.Term{1}, R: api.Term{0}}, true},
		// Rules that would have no end elsewhere.
		{[]api.Rule{endless()}, api.Pair{L: api.Term{2, 0}, R: api.Term{2, 0}}, true},
	} {
		if is, e := Pair(c.l, c.p); is != c.want || e != api.OK {
			t.Errorf("Pair(%v, %v): %v %d, want %v", c.l, c.p, is, e, c.want)
		}
	}
}

var wrongTerms = []struct {
	t    api.Term
	want api.Errno
}{
	{nil, api.ErrForm},
	{api.Term{4, -1}, api.ErrForm},
	{api.Term{0, 0}, api.ErrForm},
	{api.Term{6}, api.ErrRange},
	{api.Term{2, -9}, api.ErrRange},
	{tower(api.MaxSize+1, 0), api.ErrMany},
	{make(api.Term, 5000), api.ErrMany},
}

// wrongRules: lists with a fault, and what is told of it.
var wrongRules = []struct {
	l    []api.Rule
	want api.Errno
}{
	{[]api.Rule{{}}, api.ErrForm},
	{[]api.Rule{{L: api.Term{-1}, R: api.Term{0}}}, api.ErrForm},
	{[]api.Rule{{L: api.Term{2, -5}, R: api.Term{0}}}, api.ErrRange},
	{[]api.Rule{{L: api.Term{9}, R: api.Term{0}}}, api.ErrRange},
	{[]api.Rule{{L: api.Term{0}, R: api.Term{1}}, {L: api.Term{2, -1}, R: api.Term{-2}}}, api.ErrFree},
	{make([]api.Rule, api.MaxRules+1), api.ErrMany},
}

func TestPairErrors(t *testing.T) { // I1, P1
	ask := func(want api.Errno, l []api.Rule, p api.Pair) {
		t.Helper()
		if is, e := Pair(l, p); is || e != want {
			t.Errorf("Pair(%v, %v): %v %d, want %d", l, p, is, e, want)
		}
	}
	grows, fine := api.Term{3, 0}, api.Term{2, 0}
	for _, w := range wrongTerms {
		for _, l := range [][]api.Rule{nil, group(), {endless()}} {
			ask(w.want, l, api.Pair{L: w.t, R: fine})
			ask(w.want, l, api.Pair{L: fine, R: w.t})
			ask(w.want, l, api.Pair{L: w.t, R: w.t})
			// L goes first
			for _, x := range wrongTerms {
				ask(w.want, l, api.Pair{L: w.t, R: x.t})
			}
		}
		// what is found on L's way goes ahead of R's faults, too
		ask(api.ErrMany, []api.Rule{endless()}, api.Pair{L: grows, R: w.t})
		ask(w.want, []api.Rule{endless()}, api.Pair{L: w.t, R: grows})
		for _, x := range wrongRules {
			ask(x.want, x.l, api.Pair{L: w.t, R: w.t})
			ask(x.want, x.l, api.Pair{L: fine, R: fine})
		}
	}
	// no end, and too large
	turning := []api.Rule{{L: api.Term{0}, R: api.Term{1}}, {L: api.Term{1}, R: api.Term{0}}}
	for _, l := range [][]api.Rule{{endless()}, turning} {
		ask(api.ErrMany, l, api.Pair{L: grows, R: api.Term{-1}})
		ask(api.ErrMany, l, api.Pair{L: api.Term{-1}, R: grows})
		ask(api.ErrMany, l, api.Pair{L: grows, R: grows})
	}
}

func TestAll(t *testing.T) { // I1
	unit := group()[0]
	chain := group()[2]
	for _, c := range []struct {
		l    []api.Rule
		want bool
	}{
		{nil, true},
		{[]api.Rule{}, true},
		{group(), false},
		// without pairs
		{[]api.Rule{unit}, true},
		{group()[:2], true},
		{[]api.Rule{{L: api.Term{2, -1}, R: api.Term{3, -1}}}, true},
		{[]api.Rule{endless()}, true},
		// with pairs that all meet
		{[]api.Rule{unit, chain}, true},
		{[]api.Rule{chain, unit, {L: api.Term{4, -1, 0}, R: api.Term{-1}}}, true},
		{[]api.Rule{shorten(2, 2), shorten(2, 2)}, true},
		{[]api.Rule{shorten(2, 21), shorten(3, 21)}, true},
		{[]api.Rule{{L: api.Term{3, 3, -1}, R: api.Term{3, -1}}, {L: api.Term{3, 2, -1}, R: api.Term{2, 3, -1}}}, true},
		// one does not: it alone, the first, the last
		{[]api.Rule{{L: api.Term{0}, R: api.Term{1}}, {L: api.Term{2, 0}, R: api.Term{1}}}, false},
		{[]api.Rule{{L: api.Term{2, 0}, R: api.Term{1}}, {L: api.Term{0}, R: api.Term{1}}, shorten(3, 3)}, false},
		{[]api.Rule{shorten(3, 3), {L: api.Term{0}, R: api.Term{1}}, {L: api.Term{2, 0}, R: api.Term{1}}}, false},
		{[]api.Rule{{L: api.Term{2, 2, -1}, R: api.Term{3, -1}}}, false},
		{append([]api.Rule{{L: api.Term{2, 2, -1}, R: api.Term{3, -1}}}, api.Rule{L: api.Term{3, 2, -1}, R: api.Term{2, 3, -1}}), true},
	} {
		if is, e := All(c.l); is != c.want || e != api.OK {
			t.Errorf("All(%v): %v %d, want %v", c.l, is, e, c.want)
		}
	}
}

func TestAllErrors(t *testing.T) { // I1, P1
	for _, w := range wrongRules {
		if is, e := All(w.l); is || e != w.want {
			t.Errorf("All(%v): %v %d, want %d", w.l, is, e, w.want)
		}
	}
	parts := []api.Rule{{L: api.Term{2, 0}, R: api.Term{0}}, {L: api.Term{0}, R: api.Term{1}}}
	for _, l := range [][]api.Rule{
		make([]api.Rule, 5000),
		// too many pairs, one of which does not meet
		append(slices.Clone(parts), shorten(2, 22), shorten(3, 21)),
		// a pair that is too large behind one that does not meet
		append(slices.Clone(parts), api.Rule{L: api.Term{3, 1}, R: api.Term{1}}, api.Rule{L: api.Term{1}, R: tower(api.MaxSize, 0)}),
	} {
		if is, e := All(l); is || e != api.ErrMany {
			t.Errorf("All(%v): %v %d, want %d", l, is, e, api.ErrMany)
		}
	}
}

// The first pair that does not meet, or has an error, is told; what is behind it does not count.
func TestTheFirstOneIsTold(t *testing.T) { // I1
	parts := []api.Rule{{L: api.Term{2, 0}, R: api.Term{0}}, {L: api.Term{0}, R: api.Term{1}}}
	grows := []api.Rule{endless(), {L: api.Term{3, 1}, R: api.Term{1}}}
	if is, e := All(parts); is || e != api.OK {
		t.Errorf("All(%v): %v %d", parts, is, e)
	}
	if is, e := All(grows); is || e != api.ErrMany {
		t.Errorf("All(%v): %v %d", grows, is, e)
	}
	if is, e := All(slices.Concat(parts, grows)); is || e != api.OK {
		t.Errorf("does not meet, then an error: %v %d", is, e)
	}
	if is, e := All(slices.Concat(grows, parts)); is || e != api.ErrMany {
		t.Errorf("an error, then does not meet: %v %d", is, e)
	}
	meets := []api.Rule{shorten(2, 2)}
	if is, e := All(slices.Concat(meets, grows, parts)); is || e != api.ErrMany {
		t.Errorf("meets, then an error: %v %d", is, e)
	}
	if is, e := All(slices.Concat(meets, parts, grows)); is || e != api.OK {
		t.Errorf("meets, then does not, then an error: %v %d", is, e)
	}
}

// drawnRules: some of a list, all of which fall if symbol k ranks k.
func drawnRules(d *draw) []api.Rule {
	all := append(group(), []api.Rule{
		{L: api.Term{4, -1, 0}, R: api.Term{-1}},
		{L: api.Term{2, 2, -1}, R: api.Term{-1}},
		{L: api.Term{2, 0}, R: api.Term{0}},
		{L: api.Term{3, 2, -1}, R: api.Term{2, 3, -1}},
		{L: api.Term{3, 3, -1}, R: api.Term{3, -1}},
		{L: api.Term{4, 3, -1, 3, -2}, R: api.Term{3, 4, -1, -2}},
		{L: api.Term{3, 0}, R: api.Term{0}},
		{L: api.Term{5, -1, -1}, R: api.Term{-1}},
		{L: api.Term{5, 4, -1, -2, -3}, R: api.Term{4, 5, -1, -3, 5, -2, -3}},
		{L: api.Term{5, 0, -1}, R: api.Term{0}},
		{L: api.Term{1}, R: api.Term{0}},
	}...)
	var l []api.Rule
	for range 1 + d.below(4) {
		l = append(l, all[d.below(len(all))])
	}
	return l
}

func TestAllIsPairOfAllPairs(t *testing.T) { // I1
	d := draw(59)
	var yes, no int
	for range 2000 {
		l := drawnRules(&d)
		all, e := pairs.All(l)
		want := e == api.OK
		for _, p := range all {
			if !want || e != api.OK {
				break
			}
			left, _, u := norm.Form(l, p.L)
			right, _, v := norm.Form(l, p.R)
			e = max(u, v)
			want = e == api.OK && slices.Equal(left, right)
		}
		if is, u := All(l); is != want || u != e {
			t.Fatalf("All(%v): %v %d, want %v %d", l, is, u, want, e)
		}
		if want && len(all) > 0 {
			yes++
		}
		if !want {
			no++
		}
	}
	if yes < 200 || no < 200 {
		t.Errorf("%d meet, %d do not", yes, no)
	}
}

// wandered: where steps lead that are drawn; false, if something was too large or too far.
func wandered(d *draw, l []api.Rule, at api.Term) (api.Term, bool) {
	for range 200 {
		steps, e := rules.Steps(l, at)
		if e != api.OK {
			return nil, false
		}
		if len(steps) == 0 {
			return at, true
		}
		at = steps[d.below(len(steps))].To
	}
	return nil, false
}

func TestWhicheverStepsAreTaken(t *testing.T) { // I2
	d := draw(61)
	var walks, apart int
	for range 1500 {
		l, one := drawnRules(&d), drawn(&d, 14, 3)
		if is, e := rules.Falls(rising, l); !is || e != api.OK {
			t.Fatalf("Falls(%v): %v %d", l, is, e)
		}
		meet, e := All(l)
		form, n, u := norm.Form(l, one)
		if e != api.OK || u != api.OK || n < 2 {
			continue
		}
		for range 6 {
			end, is := wandered(&d, l, one)
			switch {
			case !is:
			case slices.Equal(end, form):
				walks++
			case meet:
				t.Fatalf("%v by %v: %v, and %v by other steps", one, l, form, end)
			default:
				apart++
			}
		}
	}
	if walks < 500 || apart < 10 {
		t.Errorf("%d walks had the same end, %d not", walks, apart)
	}
}

// roomy: the list with spare room behind it, in which each number is 77.
func roomy(l []int) []int {
	return append(slices.Clone(l), slices.Repeat([]int{77}, 40)...)[:len(l)]
}

func TestOnlyRead(t *testing.T) { // P2
	p := api.Pair{L: roomy([]int{4, 4, 0, 1, 0}), R: roomy([]int{4, 1, 0})}
	all := [][]int{p.L[:cap(p.L)], p.R[:cap(p.R)]}
	var l []api.Rule
	for _, r := range group() {
		r = api.Rule{L: roomy(r.L), R: roomy(r.R)}
		all = append(all, r.L[:cap(r.L)], r.R[:cap(r.R)])
		l = append(l, r)
	}
	l = append(l, api.Rule{L: api.Term{77}, R: api.Term{77}})[:len(l)]
	head := slices.Clone(l[:len(l)+1])
	var was [][]int
	for _, x := range all {
		was = append(was, slices.Clone(x))
	}
	if is, e := Pair(l, p); !is || e != api.OK {
		t.Errorf("Pair: %v %d", is, e)
	}
	if is, e := All(l); is || e != api.OK {
		t.Errorf("All: %v %d", is, e)
	}
	if !reflect.DeepEqual(all, was) || !reflect.DeepEqual(head, l[:len(l)+1]) {
		t.Errorf("changed: %v, was %v", all, was)
	}
}

func TestSameAgain(t *testing.T) { // P3
	ask := func() []any {
		is, e := Pair(group(), api.Pair{L: api.Term{4, 4, 0, 1, 0}, R: api.Term{4, 1, 0}})
		all, u := All(group()[1:])
		return []any{is, e, all, u}
	}
	first := ask()
	for range 20 {
		Pair([]api.Rule{endless()}, api.Pair{L: api.Term{3, 0}})
		All([]api.Rule{endless(), {L: api.Term{3, 1}, R: api.Term{1}}})
		All(nil)
		if again := ask(); !reflect.DeepEqual(first, again) {
			t.Fatalf("first %v, then %v", first, again)
		}
	}
}
