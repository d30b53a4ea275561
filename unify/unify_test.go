package unify

import (
	"reflect"
	"slices"
	"testing"

	"hasp/api"
	"hasp/sub"
)

// tower: so many signs, one upon the other, the last one as told.
func tower(n, last int) api.Term {
	return append(slices.Repeat(api.Term{2}, n-1), last)
}

// bush: a term in which so many leaves stand, all of them as told.
func bush(leaves, leaf int) api.Term {
	if leaves == 1 {
		return api.Term{leaf}
	}
	return slices.Concat(api.Term{4}, bush(leaves/2, leaf), bush(leaves-leaves/2, leaf))
}

type become = map[int]api.Term

// with: each variable becomes itself, but for these.
func with(b become) []api.Term {
	s := sub.None()
	for v, t := range b {
		s[-1-v] = t
	}
	return s
}

// turned: each pair with its terms in the other order.
func turned(l []api.Pair) []api.Pair {
	var out []api.Pair
	for _, p := range l {
		out = append(out, api.Pair{L: p.R, R: p.L})
	}
	return out
}

// orders: the pairs in each order that there is.
func orders(l []api.Pair) [][]api.Pair {
	if len(l) == 0 {
		return [][]api.Pair{nil}
	}
	var out [][]api.Pair
	for k, p := range l {
		for _, rest := range orders(slices.Delete(slices.Clone(l), k, k+1)) {
			out = append(out, append(rest, p))
		}
	}
	return out
}

// draw: numbers that are the same each time.
type draw uint32

func (d *draw) below(n int) int {
	*d = *d*1664525 + 1013904223
	return int(uint32(*d)>>8) % n
}

// drawn term of at most so many signs, with variables from -1 to -vars.
func drawn(d *draw, most, vars int) api.Term {
	kind := d.below(4)
	if most >= 3 && kind > 1 {
		one := drawn(d, most-2, vars)
		return slices.Concat(api.Term{4 + d.below(2)}, one, drawn(d, most-1-len(one), vars))
	}
	if most >= 2 && kind == 1 {
		return slices.Concat(api.Term{2 + d.below(2)}, drawn(d, most-1, vars))
	}
	return api.Term{d.below(vars+2) - vars}
}

var wrongTerms = []struct {
	t    api.Term
	want api.Errno
}{
	{nil, api.ErrForm},
	{api.Term{}, api.ErrForm},
	{api.Term{4, -1}, api.ErrForm},
	{api.Term{-1, -1}, api.ErrForm},
	{api.Term{6}, api.ErrRange},
	{api.Term{-9}, api.ErrRange},
	{api.Term{4, -9}, api.ErrRange},
	{tower(api.MaxSize+1, -1), api.ErrMany},
	{append(tower(api.MaxSize, -1), 9), api.ErrMany},
	{make(api.Term, 5000), api.ErrMany},
}

func TestMeet(t *testing.T) { // D1
	for _, c := range []struct {
		a, b api.Term
		want become
	}{
		{api.Term{4, -1, 2, -2}, api.Term{4, -3, -1}, become{-1: {2, -2}, -3: {2, -2}}},
		{api.Term{0}, api.Term{0}, nil},
		{api.Term{4, 2, 0, 1}, api.Term{4, 2, 0, 1}, nil},
		{api.Term{-1}, api.Term{-1}, nil},
		{api.Term{-8}, api.Term{-8}, nil},
		{api.Term{2, -5}, api.Term{2, -5}, nil},
		{api.Term{4, -1, 2, -2}, api.Term{4, -1, 2, -2}, nil},
		{api.Term{-1}, api.Term{0}, become{-1: {0}}},
		{api.Term{-8}, api.Term{5, -1, 1}, become{-8: {5, -1, 1}}},
		{api.Term{-3}, api.Term{-2}, become{-3: {-2}}},
		{api.Term{-1}, api.Term{-8}, become{-8: {-1}}},
		{api.Term{4, -1, -2}, api.Term{4, -2, -1}, become{-2: {-1}}},
		{api.Term{4, -1, -2}, api.Term{4, -2, 0}, become{-1: {0}, -2: {0}}},
		{api.Term{4, -1, -1}, api.Term{4, 0, -2}, become{-1: {0}, -2: {0}}},
		{api.Term{4, -1, -1}, api.Term{4, 2, -2, 2, 0}, become{-1: {2, 0}, -2: {0}}},
		{api.Term{4, -1, -1}, api.Term{4, 2, -3, 2, -2}, become{-1: {2, -2}, -3: {-2}}},
		{api.Term{4, -5, -6}, api.Term{4, -7, -5}, become{-6: {-5}, -7: {-5}}},
		{api.Term{4, 4, -1, -1, -2}, api.Term{4, -2, 4, -3, 0}, become{-1: {0}, -2: {4, 0, 0}, -3: {0}}},
		{api.Term{4, -4, 2, -4}, api.Term{4, 3, -7, -2}, become{-4: {3, -7}, -2: {2, 3, -7}}},
		{api.Term{5, 4, -1, -2, 4, -3, -4}, api.Term{5, -5, -5}, become{-3: {-1}, -4: {-2}, -5: {4, -1, -2}}},
		{api.Term{4, -1, 4, -2, 4, -3, -4}, api.Term{4, 2, -2, 4, 2, -3, 4, 2, -4, 0},
			become{-1: {2, 2, 2, 0}, -2: {2, 2, 0}, -3: {2, 0}, -4: {0}}},
		{api.Term{-1}, tower(api.MaxSize, -2), become{-1: tower(api.MaxSize, -2)}},
	} {
		want := with(c.want)
		if got, is, e := Meet(c.a, c.b); !reflect.DeepEqual(got, want) || !is || e != api.OK {
			t.Errorf("Meet(%v, %v): %v %v %d, want %v", c.a, c.b, got, is, e, want)
		}
		if got, is, e := Meet(c.b, c.a); !reflect.DeepEqual(got, want) || !is || e != api.OK {
			t.Errorf("Meet(%v, %v): %v %v %d, want %v", c.b, c.a, got, is, e, want)
		}
		if got, is, e := All([]api.Pair{{L: c.a, R: c.b}}); !reflect.DeepEqual(got, want) || !is || e != api.OK {
			t.Errorf("All of %v, %v: %v %v %d, want %v", c.a, c.b, got, is, e, want)
		}
	}
}

func TestMeetNot(t *testing.T) { // D1
	for _, c := range [][2]api.Term{
		{{0}, {1}},
		{{2, -1}, {3, -1}},
		{{2, -1}, {0}},
		{{2, -1}, {4, -1, -2}},
		{{4, -1, -2}, {5, -1, -2}},
		{{4, -1, 0}, {4, 1, -1}},
		{{4, -1, -1}, {4, 0, 1}},
		{{4, -1, -1}, {4, 2, -2, 3, -2}},
		{{4, -1, 4, -1, -2}, {4, -2, 4, 0, 1}},
		{{4, 0, -1}, {4, 1, -1}},
		{{4, -1, 0}, {4, -1, 1}},
		{{-1}, {2, -1}},
		{{-8}, {4, 0, -8}},
		{{-1}, tower(api.MaxSize, -1)},
		{{4, -1, -1}, {4, -2, 2, -2}},
		{{4, -1, -2}, {4, 2, -2, 2, -1}},
		{{4, -1, 4, -2, -3}, {4, 2, -2, 4, 2, -3, 2, -1}},
		{{4, -1, -2}, {4, -2, 2, -1}},
		{{4, 2, -1, -1}, {4, -2, -2}},
		{{4, -1, -1}, {4, 2, 2, -1, 2, 2, 2, -1}},
		{{4, -1, -1}, {4, 4, -2, 0, 4, 2, -2, 0}},
	} {
		if got, is, e := Meet(c[0], c[1]); len(got) != 0 || is || e != api.OK {
			t.Errorf("Meet(%v, %v): %v %v %d, want nothing, false", c[0], c[1], got, is, e)
		}
		if got, is, e := Meet(c[1], c[0]); len(got) != 0 || is || e != api.OK {
			t.Errorf("Meet(%v, %v): %v %v %d, want nothing, false", c[1], c[0], got, is, e)
		}
	}
}

func TestAllInAnyOrder(t *testing.T) { // D1
	for _, c := range []struct {
		l    []api.Pair
		want become // none: they can't be the same
	}{
		{[]api.Pair{{L: api.Term{-3}, R: api.Term{-5}}, {L: api.Term{-5}, R: api.Term{-2}}, {L: api.Term{-2}, R: api.Term{-7}}, {L: api.Term{-7}, R: api.Term{-3}}},
			become{-3: {-2}, -5: {-2}, -7: {-2}}},
		{[]api.Pair{{L: api.Term{-8}, R: api.Term{-3}}, {L: api.Term{-3}, R: api.Term{-6}}, {L: api.Term{-6}, R: api.Term{2, -7}}, {L: api.Term{-7}, R: api.Term{-4}}},
			become{-8: {2, -4}, -3: {2, -4}, -6: {2, -4}, -7: {-4}}},
		{[]api.Pair{{L: api.Term{-1}, R: api.Term{-2}}, {L: api.Term{-3}, R: api.Term{-4}}, {L: api.Term{-4}, R: api.Term{-2}}, {L: api.Term{0}, R: api.Term{0}}},
			become{-2: {-1}, -3: {-1}, -4: {-1}}},
		{[]api.Pair{{L: api.Term{-1}, R: api.Term{4, -3, 0}}, {L: api.Term{-2}, R: api.Term{4, 1, -4}}, {L: api.Term{-1}, R: api.Term{-2}}},
			become{-1: {4, 1, 0}, -2: {4, 1, 0}, -3: {1}, -4: {0}}},
		{[]api.Pair{{L: api.Term{-1}, R: api.Term{4, -2, -2}}, {L: api.Term{-2}, R: api.Term{4, -3, -3}}, {L: api.Term{-3}, R: api.Term{4, -4, -4}}},
			become{-1: bush(8, -4), -2: bush(4, -4), -3: bush(2, -4)}},
		{[]api.Pair{{L: api.Term{-1}, R: api.Term{2, 2, -2}}, {L: api.Term{-1}, R: api.Term{2, -3}}, {L: api.Term{-3}, R: api.Term{2, -5}}},
			become{-1: {2, 2, -2}, -3: {2, -2}, -5: {-2}}},
		{[]api.Pair{{L: api.Term{-1}, R: api.Term{0}}, {L: api.Term{-2}, R: api.Term{1}}, {L: api.Term{-1}, R: api.Term{-3}}, {L: api.Term{-2}, R: api.Term{-3}}}, nil},
		{[]api.Pair{{L: api.Term{-1}, R: api.Term{2, -2}}, {L: api.Term{-2}, R: api.Term{2, -3}}, {L: api.Term{-3}, R: api.Term{2, -1}}}, nil},
		{[]api.Pair{{L: api.Term{-1}, R: api.Term{2, -2}}, {L: api.Term{-3}, R: api.Term{-2}}, {L: api.Term{-3}, R: api.Term{-1}}}, nil},
		{[]api.Pair{{L: api.Term{-1}, R: api.Term{2, 2, -1}}, {L: api.Term{-1}, R: api.Term{2, 2, 2, -1}}, {L: api.Term{-1}, R: api.Term{2, 2, 2, 2, 2, -1}}}, nil},
		{[]api.Pair{{L: api.Term{-1}, R: api.Term{4, -2, -3}}, {L: api.Term{-1}, R: api.Term{4, -4, 2, -5}}, {L: api.Term{-5}, R: api.Term{2, -4}}, {L: api.Term{-3}, R: api.Term{-2}}}, nil},
		{[]api.Pair{{L: api.Term{-1}, R: tower(20, -2)}, {L: api.Term{-2}, R: tower(20, -3)}, {L: api.Term{0}, R: api.Term{1}}}, nil},
		{[]api.Pair{{L: api.Term{-1}, R: tower(20, -2)}, {L: api.Term{-2}, R: tower(20, -3)}, {L: api.Term{-3}, R: api.Term{2, -1}}}, nil},
		{[]api.Pair{{L: api.Term{-1}, R: tower(20, -2)}, {L: api.Term{-2}, R: tower(20, -3)}, {L: api.Term{-8}, R: api.Term{2, -8}}}, nil},
	} {
		var want []api.Term
		if c.want != nil {
			want = with(c.want)
		}
		for _, l := range slices.Concat(orders(c.l), orders(turned(c.l))) {
			if got, is, e := All(l); !reflect.DeepEqual(got, want) || is != (c.want != nil) || e != api.OK {
				t.Fatalf("All(%v): %v %v %d, want %v", l, got, is, e, want)
			}
		}
	}
}

func TestTooLarge(t *testing.T) { // D1
	for _, c := range []struct {
		l    []api.Pair
		want become // none: one is too large
	}{
		{[]api.Pair{{L: api.Term{-1}, R: tower(16, -2)}, {L: api.Term{-2}, R: tower(15, -3)}}, become{-1: tower(30, -3), -2: tower(15, -3)}},
		{[]api.Pair{{L: api.Term{-1}, R: tower(16, -2)}, {L: api.Term{-2}, R: tower(16, -3)}}, nil},
		{[]api.Pair{{L: api.Term{-8}, R: tower(16, -7)}, {L: api.Term{-7}, R: tower(15, 0)}}, become{-8: tower(30, 0), -7: tower(15, 0)}},
		{[]api.Pair{{L: api.Term{-8}, R: tower(16, -7)}, {L: api.Term{-7}, R: tower(16, 0)}}, nil},
		{[]api.Pair{{L: api.Term{-4}, R: api.Term{4, -5, -5}}, {L: api.Term{-5}, R: tower(14, 0)}}, become{-4: slices.Concat(api.Term{4}, tower(14, 0), tower(14, 0)), -5: tower(14, 0)}},
		{[]api.Pair{{L: api.Term{-4}, R: api.Term{4, -5, -5}}, {L: api.Term{-5}, R: tower(15, 0)}}, nil},
		{[]api.Pair{{L: api.Term{-4}, R: api.Term{4, -5, 2, -5}}, {L: api.Term{-5}, R: tower(14, 0)}}, become{-4: slices.Concat(api.Term{4}, tower(14, 0), tower(15, 0)), -5: tower(14, 0)}},
		{[]api.Pair{{L: api.Term{4, -1, 4, -1, -1}, R: api.Term{4, -2, 4, -2, -2}}, {L: api.Term{-1}, R: tower(30, 0)}}, become{-1: tower(30, 0), -2: tower(30, 0)}},
	} {
		var want []api.Term
		wantErr := api.ErrMany
		if c.want != nil {
			want, wantErr = with(c.want), api.OK
		}
		for _, l := range slices.Concat(orders(c.l), orders(turned(c.l))) {
			if got, is, e := All(l); !reflect.DeepEqual(got, want) || is != (c.want != nil) || e != wantErr {
				t.Errorf("All(%v): %v %v %d, want %v %d", l, got, is, e, want, wantErr)
			}
		}
	}
}

func TestMeetTooLarge(t *testing.T) { // D1
	a := slices.Concat(api.Term{4, -1}, tower(15, -3))
	if got, is, e := Meet(a, slices.Concat(api.Term{4}, tower(16, -2), api.Term{-2})); !is || e != api.OK || !reflect.DeepEqual(got, with(become{-1: tower(30, -3), -2: tower(15, -3)})) {
		t.Errorf("MaxSize signs: %v %v %d", got, is, e)
	}
	if got, is, e := Meet(a, slices.Concat(api.Term{4}, tower(17, -2), api.Term{-2})); len(got) != 0 || is || e != api.ErrMany {
		t.Errorf("one more: %v %v %d", got, is, e)
	}
}

// Each variable becomes a bush of the next one: the first one would have 15 to the power of 7 leaves.
func TestVastIsLeftSoon(t *testing.T) { // D1, P1
	var l, m []api.Pair
	for v := 1; v < api.Vars; v++ {
		l = append(l, api.Pair{L: api.Term{-v}, R: bush(15, -v-1)})
		m = append(m, api.Pair{L: bush(15, -v-1), R: api.Term{-v}})
	}
	for _, pairs := range [][]api.Pair{l, m, slices.Concat(l, m)} {
		if got, is, e := All(pairs); len(got) != 0 || is || e != api.ErrMany {
			t.Errorf("All(%v): %v %v %d", pairs, got, is, e)
		}
		back := append(slices.Clone(pairs), api.Pair{L: api.Term{-8}, R: bush(15, -1)})
		if got, is, e := All(back); len(got) != 0 || is || e != api.OK {
			t.Errorf("All(%v): %v %v %d", back, got, is, e)
		}
		other := append(slices.Clone(pairs), api.Pair{L: bush(15, -1), R: bush(15, -2)})
		if got, is, e := All(other); len(got) != 0 || is || e != api.OK {
			t.Errorf("All(%v): %v %v %d", other, got, is, e)
		}
	}
	var two []api.Pair
	for v := 1; v < 4; v++ {
		two = append(two, api.Pair{L: api.Term{-v}, R: bush(15, -v-1)}, api.Pair{L: api.Term{-v - 4}, R: bush(15, -v-5)})
	}
	two = append(two, api.Pair{L: api.Term{-1}, R: api.Term{-5}}, api.Pair{L: bush(15, -1), R: bush(15, -5)})
	if got, is, e := All(two); len(got) != 0 || is || e != api.ErrMany {
		t.Errorf("All(%v): %v %v %d", two, got, is, e)
	}
}

func TestHowManyPairs(t *testing.T) { // D1
	for _, none := range [][]api.Pair{nil, {}} {
		if got, is, e := All(none); !reflect.DeepEqual(got, sub.None()) || !is || e != api.OK {
			t.Errorf("no pairs: %v %v %d", got, is, e)
		}
	}
	most := slices.Repeat([]api.Pair{{L: tower(api.MaxSize, -2), R: tower(api.MaxSize, -1)}}, api.MaxEqs-1)
	most = append(most, api.Pair{L: api.Term{-1}, R: api.Term{1}})
	if got, is, e := All(most); !reflect.DeepEqual(got, with(become{-1: {1}, -2: {1}})) || !is || e != api.OK {
		t.Errorf("MaxEqs pairs: %v %v %d", got, is, e)
	}
	for _, more := range [][]api.Pair{append(most, most[0]), make([]api.Pair, api.MaxEqs+1), make([]api.Pair, 5000), slices.Repeat([]api.Pair{{L: api.Term{9}, R: api.Term{0}}}, api.MaxEqs+1)} {
		if got, is, e := All(more); len(got) != 0 || is || e != api.ErrMany {
			t.Errorf("%d pairs: %v %v %d", len(more), got, is, e)
		}
	}
}

func TestErrors(t *testing.T) { // D1, P1
	ask := func(want api.Errno, l ...api.Pair) {
		t.Helper()
		if got, is, e := All(l); len(got) != 0 || is || e != want {
			t.Errorf("All(%v): %v %v %d, want %d", l, got, is, e, want)
		}
		if len(l) != 1 {
			return
		}
		if got, is, e := Meet(l[0].L, l[0].R); len(got) != 0 || is || e != want {
			t.Errorf("Meet(%v): %v %v %d, want %d", l[0], got, is, e, want)
		}
	}
	not := api.Pair{L: api.Term{0}, R: api.Term{1}}
	for _, w := range wrongTerms {
		ask(w.want, api.Pair{L: w.t, R: api.Term{0}})
		ask(w.want, api.Pair{L: api.Term{0}, R: w.t})
		ask(w.want, not, api.Pair{L: api.Term{0}, R: w.t})
		ask(w.want, not, api.Pair{L: w.t, R: api.Term{0}}, not)
		for _, x := range wrongTerms {
			ask(w.want, api.Pair{L: w.t, R: x.t})
			ask(w.want, api.Pair{L: api.Term{-1}, R: w.t}, api.Pair{L: x.t, R: api.Term{-1}})
			ask(w.want, api.Pair{L: w.t, R: api.Term{0}}, api.Pair{L: x.t, R: x.t})
		}
	}
}

// bent: what the term becomes, however large that is.
func bent(s []api.Term, t api.Term) api.Term {
	var out api.Term
	for _, sign := range t {
		if sign < 0 {
			out = append(out, s[-1-sign]...)
		} else {
			out = append(out, sign)
		}
	}
	return out
}

// cut: the first term of the list, and what stands behind it.
func cut(t api.Term) (api.Term, api.Term) {
	end, open := 0, 1
	for open > 0 {
		switch t[end] {
		case 2, 3:
		case 4, 5:
			open++
		default:
			open--
		}
		end++
	}
	return t[:end], t[end:]
}

// slow: what All must answer: one variable after the other is put into all that there is, and nothing is too large.
func slow(l []api.Pair) ([]api.Term, bool) {
	s := sub.None()
	for len(l) > 0 {
		a, b := bent(s, l[0].L), bent(s, l[0].R)
		l = slices.Clone(l[1:])
		if a[0] < 0 && b[0] < 0 && a[0] < b[0] || a[0] >= 0 && b[0] < 0 {
			a, b = b, a
		}
		switch {
		case slices.Equal(a, b):
		case a[0] < 0 && b[0] < 0: // of two variables the one with the greater number goes
			s = put(s, b[0], a)
		case a[0] < 0 && slices.Contains(b, a[0]):
			return nil, false
		case a[0] < 0:
			s = put(s, a[0], b)
		case a[0] != b[0]:
			return nil, false
		default:
			for x, y := a[1:], b[1:]; len(x) > 0; {
				var p api.Pair
				p.L, x = cut(x)
				p.R, y = cut(y)
				l = append(l, p)
			}
		}
	}
	return s, true
}

// put the term for the variable into all that variables become.
func put(s []api.Term, v int, t api.Term) []api.Term {
	one := with(become{v: t})
	var out []api.Term
	for _, b := range s {
		out = append(out, bent(one, b))
	}
	return out
}

// least: the answers that come must make both of each pair the same, be so already, and name the least variable of those that are tied.
func least(t *testing.T, l []api.Pair, s []api.Term) {
	t.Helper()
	for _, p := range l {
		if !slices.Equal(bent(s, p.L), bent(s, p.R)) {
			t.Fatalf("All(%v): %v does not make %v the same", l, s, p)
		}
	}
	for k, b := range s {
		if !slices.Equal(bent(s, b), b) {
			t.Fatalf("All(%v): %v: what %d becomes would become another", l, s, -1-k)
		}
		if b[0] < -1-k {
			t.Fatalf("All(%v): %v: %d is not the least", l, s, b[0])
		}
	}
}

// chain: the first variables become terms of those behind them.
func chain(d *draw) []api.Pair {
	var l []api.Pair
	for v := -1; v > -4; v-- {
		one := drawn(d, 12, 3)
		for k := range one {
			if one[k] < 0 {
				one[k] += v
			}
		}
		l = append(l, api.Pair{L: api.Term{v}, R: one})
	}
	return l
}

func TestAllIsThatOfTheSlowWay(t *testing.T) { // D1, D2
	d := draw(17)
	var yes, no, many int
	for range 20000 {
		most, vars := 3+d.below(10), 2+d.below(api.Vars-1)
		var l []api.Pair
		for range 1 + d.below(4) {
			p := api.Pair{L: drawn(&d, most, vars), R: drawn(&d, most, vars)}
			if d.below(3) > 0 {
				p.L = api.Term{-1 - d.below(vars)}
			}
			l = append(l, p)
		}
		if d.below(4) == 0 {
			l = chain(&d)
		}
		want, can := slow(l)
		large := slices.ContainsFunc(want, func(b api.Term) bool { return len(b) > api.MaxSize })
		got, is, e := All(l)
		switch {
		case large:
			many++
			if len(got) != 0 || is || e != api.ErrMany {
				t.Fatalf("All(%v): %v %v %d, which is too large", l, got, is, e)
			}
		case can:
			yes++
			if !reflect.DeepEqual(got, want) || !is || e != api.OK {
				t.Fatalf("All(%v): %v %v %d, want %v", l, got, is, e, want)
			}
			least(t, l, got)
		default:
			no++
			if len(got) != 0 || is || e != api.OK {
				t.Fatalf("All(%v): %v %v %d, which can't be", l, got, is, e)
			}
		}
	}
	if yes < 1000 || no < 1000 || many < 50 {
		t.Errorf("%d are, %d are not, %d are too large", yes, no, many)
	}
}

// hide: the term, of which parts have become variables that become them by s.
func hide(d *draw, s []api.Term, t api.Term) api.Term {
	if d.below(2) == 0 {
		for k, b := range s {
			if slices.Equal(b, t) {
				return api.Term{-1 - k}
			}
		}
	}
	out := api.Term{t[0]}
	for rest := t[1:]; len(rest) > 0; {
		var part api.Term
		part, rest = cut(rest)
		out = append(out, hide(d, s, part)...)
	}
	return out
}

func TestWhateverElseDoesIsMadeOfIt(t *testing.T) { // D2
	d := draw(23)
	moved := 0
	for range 3000 {
		var s []api.Term
		for range api.Vars {
			s = append(s, drawn(&d, 2, 0))
		}
		var l []api.Pair
		for range 1 + d.below(3) {
			whole := drawn(&d, 15, 0)
			l = append(l, api.Pair{L: hide(&d, s, whole), R: hide(&d, s, whole)})
		}
		got, is, e := All(l)
		if !is || e != api.OK {
			t.Fatalf("All(%v): %v %d: but by %v they are the same", l, is, e, s)
		}
		least(t, l, got)
		if after, e := sub.After(got, s); !reflect.DeepEqual(after, s) || e != api.OK {
			t.Fatalf("All(%v): %v: %v is not made of it, but %v %d", l, got, s, after, e)
		}
		if !reflect.DeepEqual(got, sub.None()) {
			moved++
		}
	}
	if moved < 1000 {
		t.Errorf("only %d had something to become", moved)
	}
}

// roomy: the pairs with spare room behind the list and each term, in which each number is 77.
func roomy(l []api.Pair) []api.Pair {
	room := func(t api.Term) api.Term {
		return append(slices.Clone(t), slices.Repeat(api.Term{77}, 40)...)[:len(t)]
	}
	var out []api.Pair
	for _, p := range l {
		out = append(out, api.Pair{L: room(p.L), R: room(p.R)})
	}
	return append(out, api.Pair{L: api.Term{77}, R: api.Term{77}})[:len(l)]
}

// terms of the pairs, and of the one in the spare room behind them, each with its spare room.
func terms(l []api.Pair) []api.Term {
	var out []api.Term
	for _, p := range l[:len(l)+1] {
		out = append(out, p.L[:cap(p.L)], p.R[:cap(p.R)])
	}
	return out
}

func copied(l []api.Term) []api.Term {
	var out []api.Term
	for _, t := range l {
		out = append(out, slices.Clone(t))
	}
	return out
}

func scribble(t api.Term) {
	t = t[:cap(t)]
	for k := range t {
		t[k] = 55
	}
}

func TestOnlyRead(t *testing.T) { // P2
	l := roomy([]api.Pair{{L: api.Term{4, -1, -4}, R: api.Term{4, 2, -2, -3}}, {L: api.Term{-2}, R: api.Term{5, -5, -5}}, {L: api.Term{-1}, R: api.Term{-6}}})
	was := copied(terms(l))
	all, is, e := All(l)
	met, has, f := Meet(l[0].L, l[0].R)
	if !is || !has || e != api.OK || f != api.OK {
		t.Fatalf("%v %d %v %d", is, e, has, f)
	}
	if now := terms(l); !reflect.DeepEqual(now, was) {
		t.Fatalf("changed: %v, was %v", now, was)
	}
	for _, one := range terms(l) {
		scribble(one)
	}
	answers := slices.Concat(all, met)
	want := slices.Concat(with(become{-1: {2, 5, -5, -5}, -2: {5, -5, -5}, -4: {-3}, -6: {2, 5, -5, -5}}), with(become{-1: {2, -2}, -4: {-3}}))
	if !reflect.DeepEqual(answers, want) {
		t.Errorf("kept what was handed in: %v, want %v", answers, want)
	}
	for k := range answers {
		scribble(answers[k])
		for i := k + 1; i < len(answers); i++ {
			if !slices.Equal(answers[i], want[i]) {
				t.Errorf("%d and %d share memory", k, i)
			}
		}
	}
}

func TestAnswersAreNew(t *testing.T) { // P2
	l := []api.Pair{{L: api.Term{-1}, R: api.Term{2, 0}}, {L: api.Term{-2}, R: api.Term{2, 0}}}
	got, _, _ := All(l)
	for _, b := range got {
		scribble(b)
	}
	if want := []api.Pair{{L: api.Term{-1}, R: api.Term{2, 0}}, {L: api.Term{-2}, R: api.Term{2, 0}}}; !reflect.DeepEqual(l, want) {
		t.Errorf("shared with what was handed in: %v", l)
	}
}

func TestSameAgain(t *testing.T) { // P3
	l := []api.Pair{{L: api.Term{4, -1, -4}, R: api.Term{4, 2, -2, -3}}, {L: api.Term{-2}, R: api.Term{5, -5, -5}}, {L: api.Term{-1}, R: api.Term{-6}}}
	ask := func() []any {
		s, is, e := All(l)
		u, has, f := Meet(l[0].L, l[0].R)
		return []any{s, is, e, u, has, f}
	}
	first := ask()
	for range 20 {
		Meet(api.Term{-1}, api.Term{2, -1})
		All([]api.Pair{{L: api.Term{-1}, R: tower(20, -2)}, {L: api.Term{-2}, R: tower(20, -3)}})
		All(make([]api.Pair, api.MaxEqs+1))
		if again := ask(); !reflect.DeepEqual(first, again) {
			t.Fatalf("first %v, then %v", first, again)
		}
	}
}
