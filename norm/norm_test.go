package norm

import (
	"reflect"
	"slices"
	"testing"

	"hasp/api"
	"hasp/order"
	"hasp/rules"
)

var rising = []int{0, 1, 2, 3, 4, 5}

// tower: so many signs, one upon the other, the last one as told.
func tower(n, last int) api.Term {
	return append(slices.Repeat(api.Term{2}, n-1), last)
}

// group: rules of a group, three of them.
func group() []api.Rule {
	return []api.Rule{
		{L: api.Term{4, 0, -1}, R: api.Term{-1}},
		{L: api.Term{4, 2, -1, -1}, R: api.Term{0}},
		{L: api.Term{4, 4, -1, -2, -3}, R: api.Term{4, -1, 4, -2, -3}},
	}
}

// sink: each h goes below each g, by one step for each two of them.
func sink() api.Rule { return api.Rule{L: api.Term{3, 2, -1}, R: api.Term{2, 3, -1}} }

// stack: so many h, below them so many g, and the last sign.
func stack(h, g, last int) api.Term {
	return append(append(slices.Repeat(api.Term{3}, h), slices.Repeat(api.Term{2}, g)...), last)
}

// sunk: what a stack becomes.
func sunk(h, g, last int) api.Term {
	return append(append(slices.Repeat(api.Term{2}, g), slices.Repeat(api.Term{3}, h)...), last)
}

// draw: numbers that are the same each time.
type draw uint32

func (d *draw) below(n int) int {
	*d = *d*1664525 + 1013904223
	return int(uint32(*d)>>8) % n
}

// drawn term of at most so many signs, with variables from -1 to -vars.
func drawn(d *draw, most, vars int) api.Term {
	kind := d.below(4)
	if most >= 3 && kind > 1 {
		one := drawn(d, most-2, vars)
		return slices.Concat(api.Term{4 + d.below(2)}, one, drawn(d, most-1-len(one), vars))
	}
	if most >= 2 && kind == 1 {
		return slices.Concat(api.Term{2 + d.below(2)}, drawn(d, most-1, vars))
	}
	return api.Term{d.below(vars+2) - vars}
}

func TestForm(t *testing.T) { // G1
	turn := api.Rule{L: api.Term{0}, R: api.Term{1}}
	for _, c := range []struct {
		l     []api.Rule
		t     api.Term
		want  api.Term
		steps int
	}{
		{group(), api.Term{4, 4, 0, 1, 0}, api.Term{4, 1, 0}, 2},
		// no step leads away
		{nil, api.Term{4, 4, 0, 1, 0}, api.Term{4, 4, 0, 1, 0}, 0},
		{group(), api.Term{4, 1, 0}, api.Term{4, 1, 0}, 0},
		{group(), api.Term{-8}, api.Term{-8}, 0},
		{group(), tower(api.MaxSize, -8), tower(api.MaxSize, -8), 0},
		{group(), api.Term{4, -1, 0}, api.Term{4, -1, 0}, 0},
		// always the first of the steps: by place, then by rule
		{[]api.Rule{{L: api.Term{2, -1}, R: api.Term{5, -1, -1}}}, api.Term{2, 2, 0}, api.Term{5, 5, 0, 0, 5, 0, 0}, 3},
		{[]api.Rule{turn}, api.Term{2, 0}, api.Term{2, 1}, 1},
		{[]api.Rule{turn, {L: api.Term{2, 0}, R: api.Term{3, 1}}}, api.Term{2, 0}, api.Term{3, 1}, 1},
		{[]api.Rule{{L: api.Term{2, -1}, R: api.Term{3, -1}}, {L: api.Term{2, 0}, R: api.Term{0}}}, api.Term{2, 0}, api.Term{3, 0}, 1},
		{[]api.Rule{{L: api.Term{2, 0}, R: api.Term{0}}, {L: api.Term{2, -1}, R: api.Term{3, -1}}}, api.Term{2, 0}, api.Term{0}, 1},
		{[]api.Rule{{L: api.Term{4, -1, -2}, R: api.Term{-2}}, turn}, api.Term{4, 0, 0}, api.Term{1}, 2},
		{[]api.Rule{{L: api.Term{5, 0, 1}, R: api.Term{0}}, turn}, api.Term{5, 0, 0}, api.Term{5, 1, 1}, 2},
		// as many as there may be
		{[]api.Rule{sink()}, stack(6, 10, 1), sunk(6, 10, 1), api.MaxSteps},
		{[]api.Rule{sink(), turn}, stack(6, 10, 1), sunk(6, 10, 1), api.MaxSteps},
		{[]api.Rule{sink()}, stack(10, 6, -5), sunk(10, 6, -5), api.MaxSteps},
		{[]api.Rule{sink(), turn}, stack(1, 28, 0), sunk(1, 28, 1), 29},
		// as large as it may be on the way
		{[]api.Rule{{L: api.Term{0}, R: tower(api.MaxSize, 1)}, {L: tower(api.MaxSize, 1), R: api.Term{1}}}, api.Term{0}, api.Term{1}, 2},
	} {
		if got, n, e := Form(c.l, c.t); !slices.Equal(got, c.want) || n != c.steps || e != api.OK {
			t.Errorf("Form(%v, %v): %v %d %d, want %v %d", c.l, c.t, got, n, e, c.want, c.steps)
		}
		if is, e := Is(c.l, c.t); is != (c.steps == 0) || e != api.OK {
			t.Errorf("Is(%v, %v): %v %d", c.l, c.t, is, e)
		}
		if is, e := Is(c.l, c.want); !is || e != api.OK {
			t.Errorf("Is(%v, %v): %v %d", c.l, c.want, is, e)
		}
	}
}

func TestTooManySteps(t *testing.T) { // G1, P1
	turn := api.Rule{L: api.Term{0}, R: api.Term{1}}
	for _, c := range []struct {
		l []api.Rule
		t api.Term
	}{
		// one more than there may be, and some
		{[]api.Rule{sink(), turn}, stack(6, 10, 0)},
		{[]api.Rule{sink()}, stack(7, 9, 1)},
		{[]api.Rule{sink()}, stack(14, 15, 1)},
		// no end
		{[]api.Rule{turn, {L: api.Term{1}, R: api.Term{0}}}, api.Term{0}},
		{[]api.Rule{{L: api.Term{0}, R: api.Term{0}}}, api.Term{0}},
		{[]api.Rule{{L: api.Term{4, -1, -2}, R: api.Term{4, -2, -1}}}, api.Term{4, -1, -1}},
		// no end, and too large soon
		{[]api.Rule{{L: api.Term{2, -1}, R: api.Term{2, 2, -1}}}, api.Term{2, 0}},
		{[]api.Rule{{L: api.Term{0}, R: api.Term{4, 0, 0}}}, api.Term{0}},
	} {
		if got, n, e := Form(c.l, c.t); len(got) != 0 || n != 0 || e != api.ErrMany {
			t.Errorf("Form(%v, %v): %v %d %d, want %d", c.l, c.t, got, n, e, api.ErrMany)
		}
		if is, e := Is(c.l, c.t); is || e != api.OK {
			t.Errorf("Is(%v, %v): %v %d", c.l, c.t, is, e)
		}
	}
}

// All of the Steps count, not the first one alone: if one of them is too large, so it is told.
func TestAStepIsTooLarge(t *testing.T) { // G1
	drop := api.Rule{L: api.Term{4, -1, -2}, R: api.Term{-1}}
	wrap := api.Rule{L: api.Term{0}, R: api.Term{2, 0}}
	large := slices.Concat(api.Term{4, 1}, tower(api.MaxSize-2, 0))
	for _, l := range [][]api.Rule{{wrap}, {drop, wrap}, {wrap, drop}} {
		if got, n, e := Form(l, large); len(got) != 0 || n != 0 || e != api.ErrMany {
			t.Errorf("Form(%v, %v): %v %d %d", l, large, got, n, e)
		}
		if is, e := Is(l, large); is || e != api.ErrMany {
			t.Errorf("Is(%v, %v): %v %d", l, large, is, e)
		}
	}
	// The same one, one step later.
	open := api.Rule{L: api.Term{5, -1, -2}, R: api.Term{4, -1, -2}}
	first := slices.Concat(api.Term{5, 1}, tower(api.MaxSize-2, 0))
	fits := []api.Rule{open, drop, {L: api.Term{4, 1, -1}, R: api.Term{4, 0, -1}}}
	if got, n, e := Form(fits, first); !slices.Equal(got, api.Term{1}) || n != 2 || e != api.OK {
		t.Errorf("Form(%v, %v): %v %d %d", fits, first, got, n, e)
	}
	late := []api.Rule{open, drop, {L: api.Term{4, 1, -1}, R: api.Term{4, 2, 1, -1}}}
	if got, n, e := Form(late, first); len(got) != 0 || n != 0 || e != api.ErrMany {
		t.Errorf("Form(%v, %v): %v %d %d", late, first, got, n, e)
	}
	if is, e := Is(late, first); is || e != api.OK {
		t.Errorf("Is(%v, %v): %v %d", late, first, is, e)
	}
}

func TestErrors(t *testing.T) { // G1, P1
	ask := func(want api.Errno, l []api.Rule, one api.Term) {
		t.Helper()
		if got, n, e := Form(l, one); len(got) != 0 || n != 0 || e != want {
			t.Errorf("Form(%v, %v): %v %d %d, want %d", l, one, got, n, e, want)
		}
		if is, e := Is(l, one); is || e != want {
			t.Errorf("Is(%v, %v): %v %d, want %d", l, one, is, e, want)
		}
	}
	for _, w := range []struct {
		t    api.Term
		want api.Errno
	}{
		{nil, api.ErrForm},
		{api.Term{4, -1}, api.ErrForm},
		{api.Term{0, 0}, api.ErrForm},
		{api.Term{6}, api.ErrRange},
		{api.Term{2, -9}, api.ErrRange},
		{tower(api.MaxSize+1, 0), api.ErrMany},
		{make(api.Term, 5000), api.ErrMany},
	} {
		ask(w.want, nil, w.t)
		ask(w.want, group(), w.t)
		ask(w.want, []api.Rule{{L: w.t, R: api.Term{0}}}, api.Term{0})
		ask(w.want, append(group(), api.Rule{L: api.Term{0}, R: w.t}), api.Term{0})
		ask(api.ErrFree, []api.Rule{{L: api.Term{2, -1}, R: api.Term{-2}}}, w.t)
	}
	for _, one := range []api.Term{{2, 0}, {2}, {9}, nil} {
		ask(api.ErrMany, make([]api.Rule, api.MaxRules+1), one)
		ask(api.ErrForm, []api.Rule{{L: api.Term{-1}, R: api.Term{-1}}}, one)
		ask(api.ErrRange, []api.Rule{{L: api.Term{2, -5}, R: api.Term{0}}}, one)
		ask(api.ErrFree, append(group(), api.Rule{L: api.Term{2, 0}, R: api.Term{-1}}), one)
	}
}

// drawnRules: some of a list, all of which fall if symbol k ranks k.
func drawnRules(d *draw) []api.Rule {
	all := append(group(), []api.Rule{
		sink(),
		{L: api.Term{4, -1, 0}, R: api.Term{-1}},
		{L: api.Term{2, 2, -1}, R: api.Term{-1}},
		{L: api.Term{3, 3, -1}, R: api.Term{3, -1}},
		{L: api.Term{3, -1}, R: api.Term{2, 2, -1}},
		{L: api.Term{5, -1, -1}, R: api.Term{-1}},
		{L: api.Term{5, 4, -1, -2, -3}, R: api.Term{4, 5, -1, -3, 5, -2, -3}},
		{L: api.Term{5, -1, -2}, R: api.Term{4, -2, 3, -1}},
		{L: api.Term{5, -1, -2}, R: api.Term{4, -2, 4, -1, 4, -2, -1}},
		{L: api.Term{1}, R: api.Term{0}},
	}...)
	var l []api.Rule
	for range 1 + d.below(api.MaxRules) {
		l = append(l, all[d.below(len(all))])
	}
	return l
}

// walked: what Form must answer of rules that fall, step by step, each of which must go below.
func walked(t *testing.T, l []api.Rule, at api.Term) (api.Term, int, api.Errno) {
	t.Helper()
	for taken := 0; ; taken++ {
		steps, e := rules.Steps(l, at)
		switch {
		case e != api.OK || taken > api.MaxSteps:
			return nil, 0, api.ErrMany
		case len(steps) == 0:
			return at, taken, api.OK
		}
		if is, e := order.Above(rising, at, steps[0].To); !is || e != api.OK {
			t.Fatalf("%v by %v: %v is not below", at, l, steps[0])
		}
		at = steps[0].To
	}
}

func TestFormIsTheWayOfFirstSteps(t *testing.T) { // G1, G2
	d := draw(47)
	var gone, far, many int
	for range 4000 {
		l, one := drawnRules(&d), drawn(&d, 3+d.below(20), 5)
		if is, e := rules.Falls(rising, l); !is || e != api.OK {
			t.Fatalf("Falls(%v): %v %d", l, is, e)
		}
		want, taken, wantErr := walked(t, l, one)
		got, n, e := Form(l, one)
		if !slices.Equal(got, want) || n != taken || e != wantErr {
			t.Fatalf("Form(%v, %v): %v %d %d, want %v %d %d", l, one, got, n, e, want, taken, wantErr)
		}
		switch {
		case e != api.OK:
			many++
			continue
		case n > 5:
			far++
		case n > 0:
			gone++
		}
		isSettled(t, l, got)
	}
	if gone < 1000 || far < 200 || many < 50 {
		t.Errorf("%d went by some steps, %d by more, %d were too many", gone, far, many)
	}
}

// isSettled: Form of Form is itself.
func isSettled(t *testing.T, l []api.Rule, one api.Term) {
	t.Helper()
	if again, n, e := Form(l, one); !slices.Equal(again, one) || n != 0 || e != api.OK {
		t.Fatalf("Form(%v, %v): %v %d %d", l, one, again, n, e)
	}
	if is, e := Is(l, one); !is || e != api.OK {
		t.Fatalf("Is(%v, %v): %v %d", l, one, is, e)
	}
}

// roomy: the list with spare room behind it, in which each number is 77.
func roomy(l []int) []int {
	return append(slices.Clone(l), slices.Repeat([]int{77}, 40)...)[:len(l)]
}

// scribble over a list and the spare room behind it.
func scribble(l []int) {
	l = l[:cap(l)]
	for k := range l {
		l[k] = 55
	}
}

func TestOnlyRead(t *testing.T) { // P2
	for _, c := range []struct{ t, want api.Term }{
		{api.Term{4, 4, 0, 1, 0}, api.Term{4, 1, 0}},
		{api.Term{4, 1, 0}, api.Term{4, 1, 0}},
		{api.Term{4, 0, 4, 2, -3, -2}, api.Term{4, 2, -3, -2}},
	} {
		one := roomy(c.t)
		all := [][]int{one[:cap(one)]}
		var l []api.Rule
		for _, r := range group() {
			r = api.Rule{L: roomy(r.L), R: roomy(r.R)}
			all = append(all, r.L[:cap(r.L)], r.R[:cap(r.R)])
			l = append(l, r)
		}
		var was [][]int
		for _, x := range all {
			was = append(was, slices.Clone(x))
		}
		got, _, e := Form(l, one)
		if _, u := Is(l, one); e != api.OK || u != api.OK {
			t.Fatalf("%d %d", e, u)
		}
		if !reflect.DeepEqual(all, was) {
			t.Fatalf("changed: %v, was %v", all, was)
		}
		for _, x := range all {
			scribble(x)
		}
		if !slices.Equal(got, c.want) {
			t.Errorf("kept what was handed in: %v, want %v", got, c.want)
		}
	}
}

func TestAnswersAreNew(t *testing.T) { // P2
	l := []api.Rule{{L: api.Term{0}, R: api.Term{2, 1}}}
	for _, one := range []api.Term{{0}, {2, 1}} {
		was := slices.Clone(one)
		got, _, _ := Form(l, one)
		scribble(got)
		if !slices.Equal(one, was) || !slices.Equal(l[0].R, api.Term{2, 1}) {
			t.Errorf("shared with what was handed in: %v %v", one, l)
		}
	}
}

func TestSameAgain(t *testing.T) { // P3
	l, one := group(), api.Term{4, 4, 4, 0, 0, 4, 2, 1, 1, 0}
	ask := func() []any {
		got, n, e := Form(l, one)
		is, u := Is(l, one)
		return []any{got, n, e, is, u}
	}
	first := ask()
	for range 20 {
		Form([]api.Rule{sink()}, stack(14, 15, 1))
		Form(l, nil)
		Is(nil, one)
		if again := ask(); !reflect.DeepEqual(first, again) {
			t.Fatalf("first %v, then %v", first, again)
		}
	}
}
