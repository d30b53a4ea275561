package term

import (
	"math"
	"reflect"
	"slices"
	"testing"

	"hasp/api"
)

// tower: so many signs, one upon the other: g(g(...(a))).
func tower(n int) api.Term {
	t := make(api.Term, n)
	for k := range n - 1 {
		t[k] = 2
	}
	return t
}

// comb: f(a,f(a,...)), of 2n + 1 signs.
func comb(n int) api.Term {
	var t api.Term
	for range n {
		t = append(t, 4, 0)
	}
	return append(t, -8)
}

// built: all terms of just n signs over some of the symbols and variables, told by size, apart from how the package reads them.
func built(n int) []api.Term {
	if n == 1 {
		return []api.Term{{0}, {1}, {-1}, {-8}}
	}
	var out []api.Term
	for _, one := range built(n - 1) {
		out = append(out, slices.Concat(api.Term{3}, one))
	}
	for k := 1; k < n-1; k++ {
		for _, one := range built(k) {
			for _, two := range built(n - 1 - k) {
				out = append(out, slices.Concat(api.Term{5}, one, two))
			}
		}
	}
	return out
}

// lists: all lists of just n of the signs that built takes.
func lists(n int) []api.Term {
	if n == 0 {
		return []api.Term{{}}
	}
	var out []api.Term
	for _, l := range lists(n - 1) {
		for _, sign := range []int{0, 1, -1, -8, 3, 5} {
			out = append(out, slices.Concat(l, api.Term{sign}))
		}
	}
	return out
}

var wrong = []struct {
	name string
	t    api.Term
	want api.Errno
}{
	{"nil", nil, api.ErrForm},
	{"empty", api.Term{}, api.ErrForm},
	{"one symbol too many", api.Term{6}, api.ErrRange},
	{"one variable too many", api.Term{-9}, api.ErrRange},
	{"greatest number", api.Term{math.MaxInt}, api.ErrRange},
	{"least number", api.Term{math.MinInt}, api.ErrRange},
	{"no part of one", api.Term{2}, api.ErrForm},
	{"no part of one, h", api.Term{3}, api.ErrForm},
	{"no part of two", api.Term{4}, api.ErrForm},
	{"one part of two", api.Term{4, 0}, api.ErrForm},
	{"one part of two, k", api.Term{5, 0}, api.ErrForm},
	{"one part of two, inside", api.Term{2, 4, -1}, api.ErrForm},
	{"two terms", api.Term{0, 0}, api.ErrForm},
	{"two variables", api.Term{-1, -1}, api.ErrForm},
	{"a part more", api.Term{4, 0, 0, 0}, api.ErrForm},
	{"MaxSize signs, many terms", make(api.Term, api.MaxSize), api.ErrForm},
	{"one more than MaxSize", tower(api.MaxSize + 1), api.ErrMany},
	{"one more than MaxSize, two parts", comb(15), api.ErrMany},
	{"many more", make(api.Term, 100000), api.ErrMany},
	{"range ahead of form", api.Term{0, 9}, api.ErrRange},
	{"range ahead of form, too short", api.Term{4, -9}, api.ErrRange},
	{"many ahead of range", append(tower(api.MaxSize), 77), api.ErrMany},
	{"many ahead of form", make(api.Term, api.MaxSize+1), api.ErrMany},
}

func TestCheck(t *testing.T) { // A1
	good := []api.Term{{0}, {1}, {-1}, {-8}, {2, 0}, {3, -8}, {4, 0, 1}, {5, -1, -1}, {4, -1, 2, 0}, {4, 4, 0, 0, 0}, tower(api.MaxSize), comb(14), append(api.Term{2}, comb(14)...)}
	for _, g := range good {
		if e := Check(g); e != api.OK {
			t.Errorf("Check(%v) = %d", g, e)
		}
	}
	for _, w := range wrong {
		if e := Check(w.t); e != w.want {
			t.Errorf("%s: Check = %d, want %d", w.name, e, w.want)
		}
	}
}

func TestCheckOfAllSmall(t *testing.T) { // A1
	for n := range 6 {
		var terms []api.Term
		if n > 0 {
			terms = built(n)
		}
		for _, l := range lists(n) {
			is := slices.ContainsFunc(terms, func(b api.Term) bool { return slices.Equal(b, l) })
			if e := Check(l); (e == api.OK) != is || !is && e != api.ErrForm {
				t.Fatalf("Check(%v) = %d; a term: %v", l, e, is)
			}
		}
	}
}

func TestOthersTellCheckFirst(t *testing.T) { // A1
	for _, w := range wrong {
		for _, k := range []int{math.MinInt, -1, 0, 1, 31, math.MaxInt} {
			if n, e := End(w.t, k); n != 0 || e != w.want {
				t.Errorf("%s: End at %d: %d %d, want %d", w.name, k, n, e, w.want)
			}
			if p, e := Part(w.t, k); len(p) != 0 || e != w.want {
				t.Errorf("%s: Part at %d: %v %d, want %d", w.name, k, p, e, w.want)
			}
			if p, e := Put(w.t, k, api.Term{0}); len(p) != 0 || e != w.want {
				t.Errorf("%s: Put at %d: %v %d, want %d", w.name, k, p, e, w.want)
			}
		}
	}
}

func TestNoPlace(t *testing.T) { // A1
	for _, one := range []api.Term{{0}, {4, -1, 2, 0}, tower(api.MaxSize)} {
		for _, k := range []int{math.MinInt, -2, -1, len(one), len(one) + 1, math.MaxInt} {
			if n, e := End(one, k); n != 0 || e != api.ErrRange {
				t.Errorf("End(%v, %d): %d %d", one, k, n, e)
			}
			if p, e := Part(one, k); len(p) != 0 || e != api.ErrRange {
				t.Errorf("Part(%v, %d): %v %d", one, k, p, e)
			}
			if p, e := Put(one, k, api.Term{0}); len(p) != 0 || e != api.ErrRange {
				t.Errorf("Put(%v, %d): %v %d", one, k, p, e)
			}
		}
	}
}

func TestEndAndPart(t *testing.T) { // A2
	for _, c := range []struct {
		t    api.Term
		ends []int
	}{
		{api.Term{0}, []int{1}},
		{api.Term{-8}, []int{1}},
		{api.Term{4, -1, 2, 0}, []int{4, 2, 4, 4}},
		{api.Term{4, 2, 0, -1}, []int{4, 3, 3, 4}},
		{api.Term{5, 4, -1, 2, 0, 3, 1}, []int{7, 5, 3, 5, 5, 7, 7}},
		{api.Term{4, 4, 0, 1, 5, -1, -2}, []int{7, 4, 3, 4, 7, 6, 7}},
	} {
		for k, want := range c.ends {
			if n, e := End(c.t, k); n != want || e != api.OK {
				t.Errorf("End(%v, %d): %d %d, want %d", c.t, k, n, e, want)
			}
			if p, e := Part(c.t, k); !slices.Equal(p, c.t[k:want]) || e != api.OK {
				t.Errorf("Part(%v, %d): %v %d, want %v", c.t, k, p, e, c.t[k:want])
			}
		}
	}
	for k := range api.MaxSize {
		if n, e := End(tower(api.MaxSize), k); n != api.MaxSize || e != api.OK {
			t.Errorf("End of the tower at %d: %d %d", k, n, e)
		}
	}
}

func TestPartIsATerm(t *testing.T) { // A2
	for n := 1; n < 6; n++ {
		for _, b := range built(n) {
			for k := range b {
				end, _ := End(b, k)
				p, e := Part(b, k)
				if e != api.OK || Check(p) != api.OK || !slices.Equal(p, b[k:end]) {
					t.Fatalf("Part(%v, %d): %v %d", b, k, p, e)
				}
				if back, e := Put(b, k, p); e != api.OK || !slices.Equal(back, b) {
					t.Fatalf("Put(%v, %d) of its own part: %v %d", b, k, back, e)
				}
			}
		}
	}
}

func TestPut(t *testing.T) { // A2
	one := api.Term{4, -1, 2, 0}
	for _, c := range []struct {
		k       int
		u, want api.Term
	}{
		{0, api.Term{1}, api.Term{1}},
		{0, api.Term{5, 0, 1}, api.Term{5, 0, 1}},
		{1, api.Term{-2}, api.Term{4, -2, 2, 0}},
		{1, api.Term{3, -2}, api.Term{4, 3, -2, 2, 0}},
		{2, api.Term{1}, api.Term{4, -1, 1}},
		{2, api.Term{4, 0, 0}, api.Term{4, -1, 4, 0, 0}},
		{3, api.Term{4, 1, -1}, api.Term{4, -1, 2, 4, 1, -1}},
	} {
		if p, e := Put(one, c.k, c.u); !slices.Equal(p, c.want) || e != api.OK {
			t.Errorf("Put(%v, %d, %v): %v %d, want %v", one, c.k, c.u, p, e, c.want)
		}
	}
}

func TestPutTellsOfTheOther(t *testing.T) { // A2: behind t's errors, ahead of the place's
	for _, w := range wrong {
		for _, k := range []int{-1, 0, 1, 4} {
			if p, e := Put(api.Term{4, -1, 2, 0}, k, w.t); len(p) != 0 || e != w.want {
				t.Errorf("%s: Put at %d: %v %d, want %d", w.name, k, p, e, w.want)
			}
			for _, first := range wrong {
				if p, e := Put(first.t, k, w.t); len(p) != 0 || e != first.want {
					t.Errorf("%s into %s: Put at %d: %v %d, want %d", w.name, first.name, k, p, e, first.want)
				}
			}
		}
	}
}

func TestPutMany(t *testing.T) { // A2
	full := tower(api.MaxSize)
	if p, e := Put(full, api.MaxSize-1, api.Term{1}); len(p) != api.MaxSize || e != api.OK {
		t.Errorf("MaxSize signs: %v %d", p, e)
	}
	if p, e := Put(full, api.MaxSize-1, api.Term{2, 1}); len(p) != 0 || e != api.ErrMany {
		t.Errorf("one more: %v %d", p, e)
	}
	if p, e := Put(full, 0, full); !slices.Equal(p, full) || e != api.OK {
		t.Errorf("the whole: %v %d", p, e)
	}
	if p, e := Put(full, 1, full); len(p) != 0 || e != api.ErrMany {
		t.Errorf("the whole but one: %v %d", p, e)
	}
	if p, e := Put(full, api.MaxSize, full); len(p) != 0 || e != api.ErrRange {
		t.Errorf("no place, ahead of too many: %v %d", p, e)
	}
	if p, e := Put(comb(14), 1, api.Term{2, 0}); len(p) != api.MaxSize || e != api.OK {
		t.Errorf("MaxSize signs, two parts: %v %d", p, e)
	}
	if p, e := Put(comb(14), 1, api.Term{4, 0, 0}); len(p) != 0 || e != api.ErrMany {
		t.Errorf("one more, two parts: %v %d", p, e)
	}
}

// roomy: a list with spare room behind it, in which each number is 77.
func roomy(t api.Term) (api.Term, api.Term) {
	whole := append(slices.Clone(t), slices.Repeat(api.Term{77}, 40)...)
	return whole[:len(t)], whole
}

func TestOnlyRead(t *testing.T) { // P2
	one, whole := roomy(api.Term{4, -1, 2, 0})
	two, other := roomy(api.Term{3, 1})
	wasWhole, wasOther := slices.Clone(whole), slices.Clone(other)
	for k := -1; k <= len(one); k++ {
		Check(one)
		End(one, k)
		part, _ := Part(one, k)
		put, _ := Put(one, k, two)
		wantPart, wantPut := slices.Clone(part), slices.Clone(put)
		if !slices.Equal(whole, wasWhole) || !slices.Equal(other, wasOther) {
			t.Fatalf("changed at %d: %v %v", k, whole, other)
		}
		for i := range whole {
			whole[i], other[i%len(other)] = 99, 99
		}
		if !slices.Equal(part, wantPart) || !slices.Equal(put, wantPut) {
			t.Errorf("kept at %d: %v %v", k, part, put)
		}
		copy(whole, wasWhole)
		copy(other, wasOther)
		scribble(part)
		scribble(put)
		if !slices.Equal(whole, wasWhole) || !slices.Equal(other, wasOther) {
			t.Fatalf("shared at %d: %v %v", k, whole, other)
		}
	}
}

// scribble over a list and the spare room behind it.
func scribble(t api.Term) {
	t = t[:cap(t)]
	for k := range t {
		t[k] = 55
	}
}

func TestSameAgain(t *testing.T) { // P3
	ask := func(one api.Term, k int) []any {
		n, e := End(one, k)
		p, f := Part(one, k)
		u, g := Put(one, k, api.Term{4, -2, 1})
		return []any{Check(one), n, e, p, f, u, g}
	}
	first := ask(api.Term{4, -1, 2, 0}, 2)
	for _, w := range wrong {
		ask(w.t, 0)
	}
	ask(tower(api.MaxSize), 3)
	if again := ask(api.Term{4, -1, 2, 0}, 2); !reflect.DeepEqual(first, again) {
		t.Errorf("first %v, then %v", first, again)
	}
}
