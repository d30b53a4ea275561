package match

import (
	"reflect"
	"slices"
	"testing"

	"hasp/api"
	"hasp/sub"
	"hasp/term"
)

// tower: so many signs, one upon the other, the last one as told.
func tower(n, last int) api.Term {
	return append(slices.Repeat(api.Term{2}, n-1), last)
}

// comb: so many times k(first, ...), and behind them the last one.
func comb(n, first, last int) api.Term {
	return append(slices.Repeat(api.Term{5, first}, n), last)
}

// with: each variable becomes itself, but for these.
func with(become map[int]api.Term) []api.Term {
	s := sub.None()
	for v, t := range become {
		s[-1-v] = t
	}
	return s
}

// draw: numbers that are the same each time.
type draw uint32

func (d *draw) below(n int) int {
	*d = *d*1664525 + 1013904223
	return int(uint32(*d)>>8) % n
}

// drawn term of at most so many signs, with variables from -1 to -vars.
func drawn(d *draw, most, vars int) api.Term {
	kind := d.below(4)
	if most >= 3 && kind > 1 {
		one := drawn(d, most-2, vars)
		return slices.Concat(api.Term{4 + d.below(2)}, one, drawn(d, most-1-len(one), vars))
	}
	if most >= 2 && kind == 1 {
		return slices.Concat(api.Term{2 + d.below(2)}, drawn(d, most-1, vars))
	}
	return api.Term{d.below(vars+2) - vars}
}

var wrongTerms = []struct {
	t    api.Term
	want api.Errno
}{
	{nil, api.ErrForm},
	{api.Term{}, api.ErrForm},
	{api.Term{4, -1}, api.ErrForm},
	{api.Term{-1, -1}, api.ErrForm},
	{api.Term{2}, api.ErrForm},
	{api.Term{6}, api.ErrRange},
	{api.Term{-9}, api.ErrRange},
	{api.Term{4, -9}, api.ErrRange},
	{tower(api.MaxSize+1, -1), api.ErrMany},
	{append(tower(api.MaxSize, -1), 9), api.ErrMany},
	{make(api.Term, 5000), api.ErrMany},
}

func TestFit(t *testing.T) { // C1
	type become = map[int]api.Term
	for _, c := range []struct {
		p, t api.Term
		want become
	}{
		{api.Term{4, -1, 2, -2}, api.Term{4, 3, 0, 2, -1}, become{-1: {3, 0}, -2: {-1}}},
		{api.Term{0}, api.Term{0}, become{}},
		{api.Term{4, 2, 0, 3, 1}, api.Term{4, 2, 0, 3, 1}, become{}},
		{api.Term{-1}, api.Term{0}, become{-1: {0}}},
		{api.Term{-3}, api.Term{-3}, become{}},
		{api.Term{-3}, api.Term{-2}, become{-3: {-2}}},
		{api.Term{-2}, api.Term{-3}, become{-2: {-3}}},
		{api.Term{-1}, api.Term{2, -1}, become{-1: {2, -1}}},
		{api.Term{4, -1, -2}, api.Term{4, -2, -1}, become{-1: {-2}, -2: {-1}}},
		{api.Term{4, -1, -2}, api.Term{4, -2, -2}, become{-1: {-2}}},
		{api.Term{4, -1, -2}, api.Term{4, 0, 0}, become{-1: {0}, -2: {0}}},
		{api.Term{4, -1, -1}, api.Term{4, 0, 0}, become{-1: {0}}},
		{api.Term{4, -1, -1}, api.Term{4, -4, -4}, become{-1: {-4}}},
		{api.Term{5, -1, 4, -2, -1}, api.Term{5, 4, 0, -1, 4, 1, 4, 0, -1}, become{-1: {4, 0, -1}, -2: {1}}},
		{api.Term{4, 4, -1, -2, -3}, api.Term{4, 4, 2, 0, 4, 1, 1, 3, -7}, become{-1: {2, 0}, -2: {4, 1, 1}, -3: {3, -7}}},
		{api.Term{4, -8, 4, -7, 4, -6, 4, -5, 4, -4, 4, -3, 4, -2, -1}, api.Term{4, -1, 4, 2, 0, 4, -6, 4, 0, 4, 1, 4, 3, 1, 4, -8, -5},
			become{-8: {-1}, -7: {2, 0}, -5: {0}, -4: {1}, -3: {3, 1}, -2: {-8}, -1: {-5}}},
		{api.Term{-8}, tower(api.MaxSize, -8), become{-8: tower(api.MaxSize, -8)}},
		{tower(api.MaxSize, -8), tower(api.MaxSize, 1), become{-8: {1}}},
		{tower(api.MaxSize-1, -8), tower(api.MaxSize, 1), become{-8: {2, 1}}},
	} {
		want := with(c.want)
		if got, is, e := Fit(c.p, c.t); !reflect.DeepEqual(got, want) || !is || e != api.OK {
			t.Errorf("Fit(%v, %v): %v %v %d, want %v", c.p, c.t, got, is, e, want)
		}
	}
}

func TestFitNot(t *testing.T) { // C1
	for _, c := range [][2]api.Term{
		{{0}, {1}},
		{{0}, {-1}},
		{{2, -1}, {3, -1}},
		{{2, -1}, {-1}},
		{{2, 0}, {0}},
		{{0}, {2, 0}},
		{{2, 2, -1}, {2, 0}},
		{{4, -1, -1}, {4, 0, 1}},
		{{4, -1, -1}, {4, -1, -2}},
		{{4, -1, -1}, {4, 2, 0, 2, 1}},
		{{4, -1, -1}, {4, 2, 0, 2, 2, 0}},
		{{4, -1, -1}, {4, 2, 2, 0, 2, 0}},
		{{4, -1, -1}, {4, 2, 0, 3, 0}},
		{{4, -1, -1}, {4, -1, 2, -1}},
		{{4, -1, -2}, {5, -1, -2}},
		{{4, -1, 4, -2, -1}, {4, 0, 4, 0, 1}},
		{{4, -1, 5, -2, -1}, {4, 0, 4, 1, 0}},
		{{4, -1, 0}, {4, 1, -1}},
		{{4, -1, 0}, {4, 1, 1}},
		{{4, 4, -1, -2, -3}, {4, -1, 4, -2, -3}},
		{tower(api.MaxSize, -1), tower(api.MaxSize-1, -1)},
		{tower(api.MaxSize, 0), tower(api.MaxSize, 1)},
	} {
		if got, is, e := Fit(c[0], c[1]); len(got) != 0 || is || e != api.OK {
			t.Errorf("Fit(%v, %v): %v %v %d, want nothing, false", c[0], c[1], got, is, e)
		}
	}
}

func TestFitErrors(t *testing.T) { // C1, P1
	for _, w := range wrongTerms {
		if got, is, e := Fit(w.t, api.Term{0}); len(got) != 0 || is || e != w.want {
			t.Errorf("Fit(%v, ...): %v %v %d, want %d", w.t, got, is, e, w.want)
		}
		if got, is, e := Fit(api.Term{-1}, w.t); len(got) != 0 || is || e != w.want {
			t.Errorf("Fit(..., %v): %v %v %d, want %d", w.t, got, is, e, w.want)
		}
		for _, x := range wrongTerms {
			if got, is, e := Fit(w.t, x.t); len(got) != 0 || is || e != w.want {
				t.Errorf("Fit(%v, %v): %v %v %d, want %d", w.t, x.t, got, is, e, w.want)
			}
		}
	}
}

// fits: can one of all ways in which the variables of p become parts of t make it t?
func fits(p, t api.Term) bool {
	var free []int
	for _, sign := range p {
		if sign < 0 && !slices.Contains(free, sign) {
			free = append(free, sign)
		}
	}
	s := sub.None()
	var try func(free []int) bool
	try = func(free []int) bool {
		if len(free) == 0 {
			got, e := sub.Apply(s, p)
			return e == api.OK && slices.Equal(got, t)
		}
		for k := range t {
			s[-1-free[0]], _ = term.Part(t, k)
			if try(free[1:]) {
				return true
			}
		}
		return false
	}
	return try(free)
}

func TestFitIsFoundWhereThereIsOne(t *testing.T) { // C1
	d := draw(3)
	var yes, no int
	for range 4000 {
		p, one := drawn(&d, 7, 3), drawn(&d, 7, 3)
		if d.below(3) == 0 {
			s := []api.Term{drawn(&d, 3, 2), drawn(&d, 3, 2), drawn(&d, 2, 2), {-4}, {-5}, {-6}, {-7}, {-8}}
			one, _ = sub.Apply(s, p)
		}
		got, is, e := Fit(p, one)
		if want := fits(p, one); is != want || e != api.OK {
			t.Fatalf("Fit(%v, %v): %v %d, want %v", p, one, is, e, want)
		}
		if !is {
			no++
			continue
		}
		yes++
		for k, become := range got {
			if !slices.Contains(p, -1-k) && !slices.Equal(become, api.Term{-1 - k}) {
				t.Fatalf("Fit(%v, %v): %v: %d does not stand there", p, one, got, -1-k)
			}
		}
		if back, e := sub.Apply(got, p); !slices.Equal(back, one) || e != api.OK {
			t.Fatalf("%v by Fit(%v, %v): %v %d", p, p, one, back, e)
		}
	}
	if yes < 1000 || no < 1000 {
		t.Errorf("%d fit, %d do not", yes, no)
	}
}

func TestOver(t *testing.T) { // C2
	var each []int
	for k := range api.MaxSize {
		each = append(each, k)
	}
	for _, c := range []struct {
		t, p api.Term
		want []int
	}{
		{api.Term{0}, api.Term{0}, []int{0}},
		{api.Term{0}, api.Term{1}, nil},
		{api.Term{-1}, api.Term{0}, nil},
		{api.Term{4, -1, 2, 0}, api.Term{-1}, []int{0, 1, 2, 3}},
		{api.Term{4, -1, 2, 0}, api.Term{2, -1}, []int{2}},
		{api.Term{4, -1, 2, 0}, api.Term{3, -1}, nil},
		{api.Term{4, -1, 2, 0}, api.Term{4, -1, -1}, nil},
		{api.Term{4, 4, 0, 0, 4, 0, 0}, api.Term{4, -1, -1}, []int{0, 1, 4}},
		{api.Term{4, 4, 0, 1, 4, 1, 1}, api.Term{4, -1, -1}, []int{4}},
		{api.Term{4, 4, 0, 1, 4, 0, -1}, api.Term{4, 0, -1}, []int{1, 4}},
		{api.Term{4, 4, 0, 1, 0}, api.Term{0}, []int{2, 4}},
		{api.Term{4, -1, 5, -1, -2}, api.Term{5, -2, -1}, []int{2}},
		{api.Term{2, 2, 2, -1}, api.Term{2, 2, -1}, []int{0, 1}},
		{api.Term{2, 0}, api.Term{2, 2, -1}, nil},
		{tower(api.MaxSize, -1), api.Term{-8}, each},
		{tower(api.MaxSize, -1), api.Term{2, -8}, each[:api.MaxSize-1]},
		{tower(api.MaxSize, -1), tower(api.MaxSize, -1), []int{0}},
		{comb(14, 0, 1), api.Term{1}, []int{28}},
	} {
		if got, e := Over(c.t, c.p); !slices.Equal(got, c.want) || e != api.OK {
			t.Errorf("Over(%v, %v): %v %d, want %v", c.t, c.p, got, e, c.want)
		}
	}
}

func TestOverIsFitOfEachPart(t *testing.T) { // C2
	d := draw(7)
	found := 0
	for range 6000 {
		one, p := drawn(&d, api.MaxSize, 3), drawn(&d, 4, 3)
		var want []int
		for k := range one {
			part, _ := term.Part(one, k)
			if _, is, _ := Fit(p, part); is {
				want = append(want, k)
			}
		}
		if got, e := Over(one, p); !slices.Equal(got, want) || e != api.OK {
			t.Fatalf("Over(%v, %v): %v %d, want %v", one, p, got, e, want)
		}
		if len(want) > 1 && len(p) > 1 {
			found++
		}
	}
	if found < 100 {
		t.Errorf("only %d had several places", found)
	}
}

func TestOverErrors(t *testing.T) { // C2, P1
	for _, w := range wrongTerms {
		if got, e := Over(w.t, api.Term{-1}); len(got) != 0 || e != w.want {
			t.Errorf("Over(%v, ...): %v %d, want %d", w.t, got, e, w.want)
		}
		if got, e := Over(api.Term{0}, w.t); len(got) != 0 || e != w.want {
			t.Errorf("Over(..., %v): %v %d, want %d", w.t, got, e, w.want)
		}
		for _, x := range wrongTerms {
			if got, e := Over(w.t, x.t); len(got) != 0 || e != w.want {
				t.Errorf("Over(%v, %v): %v %d, want %d", w.t, x.t, got, e, w.want)
			}
		}
	}
}

// roomy: the term with spare room behind it, in which each number is 77.
func roomy(t api.Term) api.Term {
	return append(slices.Clone(t), slices.Repeat(api.Term{77}, 40)...)[:len(t)]
}

// scribble over a term and the spare room behind it.
func scribble(t api.Term) {
	t = t[:cap(t)]
	for k := range t {
		t[k] = 55
	}
}

func TestOnlyRead(t *testing.T) { // P2
	p, one := roomy(api.Term{5, -1, 4, -2, -1}), roomy(api.Term{5, 3, -4, 4, 3, -4, 3, -4})
	wasP, wasOne := slices.Clone(p[:cap(p)]), slices.Clone(one[:cap(one)])
	got, is, e := Fit(p, one)
	over, f := Over(one, p)
	if !is || e != api.OK || f != api.OK {
		t.Fatalf("%v %d %d", is, e, f)
	}
	if !slices.Equal(p[:cap(p)], wasP) || !slices.Equal(one[:cap(one)], wasOne) {
		t.Fatalf("changed: %v %v", p[:cap(p)], one[:cap(one)])
	}
	scribble(p)
	scribble(one)
	want := with(map[int]api.Term{-1: {3, -4}, -2: {3, -4}})
	if !reflect.DeepEqual(got, want) || !slices.Equal(over, []int{0}) {
		t.Errorf("kept what was handed in: %v %v", got, over)
	}
	for k := range got {
		scribble(got[k])
		for i := k + 1; i < len(got); i++ {
			if !slices.Equal(got[i], want[i]) {
				t.Errorf("%d and %d share memory", k, i)
			}
		}
	}
}

func TestAnswersAreNew(t *testing.T) { // P2
	p, one := api.Term{4, -1, -2}, api.Term{4, 2, 0, -2}
	got, _, _ := Fit(p, one)
	for _, become := range got {
		scribble(become)
	}
	if !slices.Equal(p, api.Term{4, -1, -2}) || !slices.Equal(one, api.Term{4, 2, 0, -2}) {
		t.Errorf("shared with what was handed in: %v %v", p, one)
	}
}

func TestSameAgain(t *testing.T) { // P3
	p, one := api.Term{5, -1, 4, -2, -3}, api.Term{5, 3, -4, 4, 5, 0, 4, 0, 1, 3, -4}
	ask := func() []any {
		s, is, e := Fit(p, one)
		l, f := Over(one, p)
		return []any{s, is, e, l, f}
	}
	first := ask()
	for range 20 {
		Fit(api.Term{4, -1, -1}, api.Term{4, 0, 1})
		Over(one, api.Term{-1})
		Fit(nil, one)
		if again := ask(); !reflect.DeepEqual(first, again) {
			t.Fatalf("first %v, then %v", first, again)
		}
	}
}
