package pairs

import (
	"reflect"
	"slices"
	"testing"

	"hasp/api"
	"hasp/rules"
)

// tower: so many signs, one upon the other, the last one as told.
func tower(n, last int) api.Term {
	return append(slices.Repeat(api.Term{2}, n-1), last)
}

// group: rules of a group, three of them.
func group() []api.Rule {
	return []api.Rule{
		{L: api.Term{4, 0, -1}, R: api.Term{-1}},
		{L: api.Term{4, 2, -1, -1}, R: api.Term{0}},
		{L: api.Term{4, 4, -1, -2, -3}, R: api.Term{4, -1, 4, -2, -3}},
	}
}

// shorten: so many of the symbol, one upon the other, go away. It laps over itself at one place less.
func shorten(symbol, n int) api.Rule {
	return api.Rule{L: append(slices.Repeat(api.Term{symbol}, n), -1), R: api.Term{-1}}
}

// draw: numbers that are the same each time.
type draw uint32

func (d *draw) below(n int) int {
	*d = *d*1664525 + 1013904223
	return int(uint32(*d)>>8) % n
}

// drawn term of at most so many signs, with variables from -1 to -vars.
func drawn(d *draw, most, vars int) api.Term {
	kind := d.below(4)
	if most >= 3 && kind > 1 {
		one := drawn(d, most-2, vars)
		return slices.Concat(api.Term{4 + d.below(2)}, one, drawn(d, most-1-len(one), vars))
	}
	if most >= 2 && kind == 1 {
		return slices.Concat(api.Term{2 + d.below(2)}, drawn(d, most-1, vars))
	}
	return api.Term{d.below(vars+2) - vars}
}

// same pairs; an empty list may be nil or not.
func same(a, b []api.Pair) bool {
	return len(a)+len(b) == 0 || reflect.DeepEqual(a, b)
}

func TestOf(t *testing.T) { // H1
	flip := api.Rule{L: api.Term{0}, R: api.Term{3, 1}}
	for _, c := range []struct {
		l    []api.Rule
		i, j int
		want []api.Pair
	}{
		// the group
		{group(), 2, 0, []api.Pair{{L: api.Term{4, -1, -2}, R: api.Term{4, 0, 4, -1, -2}}}},
		{group(), 2, 1, []api.Pair{{L: api.Term{4, 0, -1}, R: api.Term{4, 2, -2, 4, -2, -1}}}},
		{group(), 2, 2, []api.Pair{{L: api.Term{4, 4, -1, 4, -2, -3, -4}, R: api.Term{4, 4, -1, -2, 4, -3, -4}}}},
		{group(), 0, 0, nil},
		{group(), 0, 1, nil},
		{group(), 0, 2, nil},
		{group(), 1, 2, nil},
		// with itself place 0 is passed over
		{[]api.Rule{shorten(2, 1)}, 0, 0, nil},
		{[]api.Rule{shorten(2, 2)}, 0, 0, []api.Pair{{L: api.Term{2, -1}, R: api.Term{2, -1}}}},
		{[]api.Rule{flip}, 0, 0, nil},
		// with another one it is not, even if that says the same
		{[]api.Rule{shorten(2, 1), shorten(2, 1)}, 0, 1, []api.Pair{{L: api.Term{-1}, R: api.Term{-1}}}},
		{[]api.Rule{shorten(2, 2), shorten(2, 2)}, 1, 0, []api.Pair{{L: api.Term{-1}, R: api.Term{-1}}, {L: api.Term{2, -1}, R: api.Term{2, -1}}}},
		{[]api.Rule{shorten(2, 2), shorten(2, 2)}, 1, 1, []api.Pair{{L: api.Term{2, -1}, R: api.Term{2, -1}}}},
		{[]api.Rule{{L: api.Term{0}, R: api.Term{1}}, flip}, 0, 1, []api.Pair{{L: api.Term{3, 1}, R: api.Term{1}}}},
		{[]api.Rule{{L: api.Term{0}, R: api.Term{1}}, flip}, 1, 0, []api.Pair{{L: api.Term{1}, R: api.Term{3, 1}}}},
		// variables stand at no place of a pair, whatever would meet there
		{[]api.Rule{{L: api.Term{4, -1, -2}, R: api.Term{-1}}, flip}, 0, 1, nil},
		{[]api.Rule{{L: api.Term{4, -1, 0}, R: api.Term{-1}}, flip}, 0, 1, []api.Pair{{L: api.Term{4, -1, 3, 1}, R: api.Term{-1}}}},
		{[]api.Rule{{L: api.Term{4, -1, 0}, R: api.Term{-1}}, flip}, 1, 0, nil},
		// at several places, rising
		{[]api.Rule{{L: api.Term{4, 5, 0, 1, 5, 1, 0}, R: api.Term{0}}, flip}, 0, 1,
			[]api.Pair{{L: api.Term{4, 5, 3, 1, 1, 5, 1, 0}, R: api.Term{0}}, {L: api.Term{4, 5, 0, 1, 5, 1, 3, 1}, R: api.Term{0}}}},
		{[]api.Rule{shorten(3, 4)}, 0, 0,
			[]api.Pair{{L: api.Term{3, -1}, R: api.Term{3, -1}}, {L: api.Term{3, 3, -1}, R: api.Term{3, 3, -1}}, {L: api.Term{3, 3, 3, -1}, R: api.Term{3, 3, 3, -1}}}},
		{[]api.Rule{{L: api.Term{4, 2, -1, 2, -2}, R: api.Term{4, -2, -1}}, {L: api.Term{2, 0}, R: api.Term{1}}}, 0, 1,
			[]api.Pair{{L: api.Term{4, 1, 2, -1}, R: api.Term{4, -1, 0}}, {L: api.Term{4, 2, -1, 1}, R: api.Term{4, 0, -1}}}},
		// the rules' variables have nothing to do with each other
		{[]api.Rule{{L: api.Term{4, 2, -1, -2}, R: api.Term{-2}}, {L: api.Term{2, 3, -1}, R: api.Term{-1}}}, 0, 1,
			[]api.Pair{{L: api.Term{4, -1, -2}, R: api.Term{-2}}}},
		{[]api.Rule{{L: api.Term{2, 3, -1}, R: api.Term{-1}}, {L: api.Term{3, 2, -1}, R: api.Term{-1}}}, 0, 1,
			[]api.Pair{{L: api.Term{2, -1}, R: api.Term{2, -1}}}},
		// one that would stand within itself does not meet
		{[]api.Rule{{L: api.Term{3, 5, -1, -1}, R: api.Term{0}}, {L: api.Term{5, -1, 2, -1}, R: api.Term{0}}}, 0, 1, nil},
		// a variable that stands twice
		{[]api.Rule{{L: api.Term{3, 5, -1, -1}, R: api.Term{-1}}, {L: api.Term{5, 2, -1, 2, 0}, R: api.Term{-1}}}, 0, 1,
			[]api.Pair{{L: api.Term{3, 0}, R: api.Term{2, 0}}}},
	} {
		if got, e := Of(c.l, c.i, c.j); !same(got, c.want) || e != api.OK {
			t.Errorf("Of(%v, %d, %d): %v %d, want %v", c.l, c.i, c.j, got, e, c.want)
		}
	}
}

// The two of a pair have their variables in common: the second one goes on where the first one ended.
func TestPlainAsPartsOfOne(t *testing.T) { // H1
	for _, c := range []struct {
		one, other api.Rule
		want       api.Pair
	}{
		// one that stands in R alone
		{api.Rule{L: api.Term{4, 2, -1, -2}, R: api.Term{5, -1, -2}}, api.Rule{L: api.Term{2, 3, -4}, R: api.Term{1}},
			api.Pair{L: api.Term{4, 1, -1}, R: api.Term{5, 3, -2, -1}}},
		// by the order of L, not by that of R
		{api.Rule{L: api.Term{4, 2, -1, 5, -2, -3}, R: api.Term{5, -3, 5, -2, -1}}, api.Rule{L: api.Term{2, -4}, R: api.Term{-4}},
			api.Pair{L: api.Term{4, -1, 5, -2, -3}, R: api.Term{5, -3, 5, -2, -1}}},
		{api.Rule{L: api.Term{4, -4, 2, -3}, R: api.Term{4, -3, -4}}, api.Rule{L: api.Term{2, 2, -2}, R: api.Term{-2}},
			api.Pair{L: api.Term{4, -1, -2}, R: api.Term{4, 2, -2, -1}}},
		// none in L
		{api.Rule{L: api.Term{2, 3, -3}, R: api.Term{-3}}, api.Rule{L: api.Term{3, 5, -4, -2}, R: api.Term{0}},
			api.Pair{L: api.Term{2, 0}, R: api.Term{5, -1, -2}}},
		// as many as there can be
		{api.Rule{L: api.Term{4, 2, -1, 4, -2, 4, -3, -4}, R: api.Term{5, -1, -4}}, api.Rule{L: api.Term{2, 4, 4, -1, -2, 4, -3, -4}, R: api.Term{4, -4, 4, -3, 4, -2, -1}},
			api.Pair{L: api.Term{4, 4, -1, 4, -2, 4, -3, -4, 4, -5, 4, -6, -7}, R: api.Term{5, 4, 4, -4, -3, 4, -2, -1, -7}}},
	} {
		if got, e := Of([]api.Rule{c.one, c.other}, 0, 1); !same(got, []api.Pair{c.want}) || e != api.OK {
			t.Errorf("Of(%v, %v): %v %d, want %v", c.one, c.other, got, e, c.want)
		}
	}
}

func TestNoSuchRule(t *testing.T) { // H1, P1
	for _, k := range []int{-1, -2, -1 << 62, 3, 4, 1 << 62} {
		for _, two := range [][2]int{{k, 0}, {0, k}, {k, 2}, {2, k}, {k, k}, {k, -k}} {
			if got, e := Of(group(), two[0], two[1]); len(got) != 0 || e != api.ErrNone {
				t.Errorf("Of(group, %v): %v %d, want %d", two, got, e, api.ErrNone)
			}
		}
	}
	for _, l := range [][]api.Rule{nil, {}} {
		if got, e := Of(l, 0, 0); len(got) != 0 || e != api.ErrNone {
			t.Errorf("Of(%v, 0, 0): %v %d, want %d", l, got, e, api.ErrNone)
		}
	}
	all := slices.Repeat(group()[:1], api.MaxRules)
	if _, e := Of(all, api.MaxRules-1, 0); e != api.OK {
		t.Errorf("the last of %d rules: %d", len(all), e)
	}
	if _, e := Of(all, 0, api.MaxRules); e != api.ErrNone {
		t.Errorf("the one behind the last of %d rules: %d", len(all), e)
	}
}

func TestRulesErrors(t *testing.T) { // H1, P1
	fine := group()[0]
	for _, c := range []struct {
		l    []api.Rule
		want api.Errno
	}{
		{[]api.Rule{{}}, api.ErrForm},
		{[]api.Rule{{L: api.Term{4, -1}, R: api.Term{0}}}, api.ErrForm},
		{[]api.Rule{{L: api.Term{0}, R: api.Term{0, 0}}}, api.ErrForm},
		{[]api.Rule{{L: api.Term{6}, R: api.Term{0}}}, api.ErrRange},
		{[]api.Rule{{L: api.Term{2, -9}, R: api.Term{0}}}, api.ErrRange},
		{[]api.Rule{{L: api.Term{2, -5}, R: api.Term{0}}}, api.ErrRange},
		{[]api.Rule{{L: api.Term{-1}, R: api.Term{0}}}, api.ErrForm},
		{[]api.Rule{{L: api.Term{2, -1}, R: api.Term{-2}}}, api.ErrFree},
		{[]api.Rule{fine, fine, {L: api.Term{2, -1}, R: api.Term{-2}}}, api.ErrFree},
		{[]api.Rule{fine, {L: api.Term{2, -5}, R: api.Term{0}}, {L: api.Term{2, -1}, R: api.Term{-2}}}, api.ErrRange},
		{[]api.Rule{{L: tower(api.MaxSize+1, 0), R: api.Term{0}}}, api.ErrMany},
		{slices.Repeat([]api.Rule{fine}, api.MaxRules+1), api.ErrMany},
		{make([]api.Rule, api.MaxRules+1), api.ErrMany},
		{make([]api.Rule, 5000), api.ErrMany},
	} {
		// ahead of what is to be told of numbers
		for _, two := range [][2]int{{0, 0}, {-1, 0}, {0, -1}, {9, 9}, {len(c.l), 0}, {0, len(c.l)}} {
			if got, e := Of(c.l, two[0], two[1]); len(got) != 0 || e != c.want {
				t.Errorf("Of(%v, %v): %v %d, want %d", c.l, two, got, e, c.want)
			}
		}
		if got, e := All(c.l); len(got) != 0 || e != c.want {
			t.Errorf("All(%v): %v %d, want %d", c.l, got, e, c.want)
		}
	}
}

func TestHowLargePairsAre(t *testing.T) { // H1
	wrapped := api.Rule{L: api.Term{2, 0}, R: api.Term{1}}
	twice := api.Rule{L: api.Term{4, 3, -1, -1}, R: api.Term{0}}
	doubled := api.Rule{L: api.Term{4, 3, -1, 1}, R: api.Term{5, -1, 2, -1}}
	more := api.Rule{L: api.Term{4, 3, -1, 1}, R: api.Term{5, 2, -1, 2, -1}}
	under := func(n int) api.Rule { return api.Rule{L: append(api.Term{3}, tower(n, 0)...), R: api.Term{1}} }
	for _, c := range []struct {
		one, other  api.Rule
		left, right int // signs of the pair's; 0: too large
	}{
		// what is put there
		{wrapped, api.Rule{L: api.Term{0}, R: tower(api.MaxSize-1, 1)}, api.MaxSize, 1},
		{wrapped, api.Rule{L: api.Term{0}, R: tower(api.MaxSize, 1)}, 0, 0},
		{api.Rule{L: api.Term{0}, R: tower(api.MaxSize, 0)}, api.Rule{L: api.Term{0}, R: tower(api.MaxSize, 1)}, api.MaxSize, api.MaxSize},
		// what variables become in L
		{twice, under(api.MaxSize - 2), api.MaxSize, 1},
		{twice, under(api.MaxSize - 1), 0, 0},
		// and in R
		{doubled, under(14), 3, api.MaxSize},
		{more, under(14), 0, 0},
		{doubled, under(15), 0, 0},
		// and in what is put there
		{api.Rule{L: api.Term{4, 3, 2, -1, 1}, R: api.Term{1}}, api.Rule{L: api.Term{3, -1}, R: api.Term{5, -1, -1}}, 7, 1},
		{api.Rule{L: slices.Concat(api.Term{2, 3}, tower(14, 0)), R: api.Term{1}}, api.Rule{L: api.Term{3, -1}, R: api.Term{5, -1, -1}}, api.MaxSize, 1},
		{api.Rule{L: slices.Concat(api.Term{2, 2, 3}, tower(14, 0)), R: api.Term{1}}, api.Rule{L: api.Term{3, -1}, R: api.Term{5, -1, -1}}, 0, 0},
	} {
		got, e := Of([]api.Rule{c.one, c.other}, 0, 1)
		if c.left == 0 {
			if len(got) != 0 || e != api.ErrMany {
				t.Errorf("Of(%v, %v): %v %d, want %d", c.one, c.other, got, e, api.ErrMany)
			}
			if got, e := All([]api.Rule{c.other, c.one}); len(got) != 0 || e != api.ErrMany {
				t.Errorf("All(%v, %v): %v %d, want %d", c.other, c.one, got, e, api.ErrMany)
			}
			continue
		}
		if len(got) != 1 || e != api.OK || len(got[0].L) != c.left || len(got[0].R) != c.right {
			t.Errorf("Of(%v, %v): %v %d, want %d and %d signs", c.one, c.other, got, e, c.left, c.right)
		}
	}
}

// One that is too large takes those ahead of it away, too.
func TestOneOfTwoIsTooLarge(t *testing.T) { // H1, P1
	double := api.Rule{L: api.Term{3, -1}, R: api.Term{5, -1, -1}}
	at := func(n int) []api.Rule {
		return []api.Rule{{L: slices.Concat(api.Term{4, 3, 0, 3}, tower(n, 0)), R: api.Term{1}}, double}
	}
	if got, e := Of(at(13), 0, 1); len(got) != 2 || len(got[0].L) != 18 || len(got[1].L) != api.MaxSize || e != api.OK {
		t.Errorf("Of(%v, 0, 1): %v %d", at(13), got, e)
	}
	if got, e := Of(at(14), 0, 1); len(got) != 0 || e != api.ErrMany {
		t.Errorf("Of(%v, 0, 1): %v %d, want %d", at(14), got, e, api.ErrMany)
	}
	if got, e := All(append(group(), at(14)...)); len(got) != 0 || e != api.ErrMany {
		t.Errorf("All(%v): %v %d, want %d", at(14), got, e, api.ErrMany)
	}
}

// What a variable becomes may be too large, even where it stands in neither of the pair.
func TestUnifyTellsMany(t *testing.T) { // H1
	one := api.Rule{L: api.Term{3, 5, -1, 5, 2, 4, -1, -1, 5, -2, 4, -2, 2, -2}, R: api.Term{0}}
	other := func(n int) api.Rule {
		return api.Rule{L: slices.Concat(api.Term{5}, tower(n, 0), api.Term{5, -1, 5, -1, -2}), R: api.Term{1}}
	}
	// x becomes a tower, y 2n+2 signs, and the last one twice these and two more.
	want := []api.Pair{{L: api.Term{3, 1}, R: api.Term{0}}}
	if got, e := Of([]api.Rule{one, other(6)}, 0, 1); !same(got, want) || e != api.OK {
		t.Errorf("30 signs: %v %d, want %v", got, e, want)
	}
	one.L = api.Term{3, 5, -1, 5, 2, 4, -1, -1, 5, -2, 4, 2, -2, 2, -2}
	if got, e := Of([]api.Rule{one, other(6)}, 0, 1); len(got) != 0 || e != api.ErrMany {
		t.Errorf("31 signs: %v %d, want %d", got, e, api.ErrMany)
	}
	if got, e := All([]api.Rule{one, other(6)}); len(got) != 0 || e != api.ErrMany {
		t.Errorf("31 signs: %v %d, want %d", got, e, api.ErrMany)
	}
	// Nothing is too large where nothing meets.
	if got, e := Of([]api.Rule{one, other(6)}, 1, 0); len(got) != 0 || e != api.OK {
		t.Errorf("the other way: %v %d", got, e)
	}
}

func TestAll(t *testing.T) { // H1
	for _, c := range []struct {
		l    []api.Rule
		want []api.Pair
	}{
		{nil, nil},
		{[]api.Rule{}, nil},
		{group()[:2], nil},
		{[]api.Rule{shorten(2, 1)}, nil},
		{group(), []api.Pair{
			{L: api.Term{4, -1, -2}, R: api.Term{4, 0, 4, -1, -2}},
			{L: api.Term{4, 0, -1}, R: api.Term{4, 2, -2, 4, -2, -1}},
			{L: api.Term{4, 4, -1, 4, -2, -3, -4}, R: api.Term{4, 4, -1, -2, 4, -3, -4}},
		}},
		// by i, then by j, then by place
		{[]api.Rule{{L: api.Term{3, 0}, R: api.Term{0}}, {L: api.Term{0}, R: api.Term{1}}, {L: api.Term{5, 0, 3, 0}, R: api.Term{3, 3, 1}}, {L: api.Term{0}, R: api.Term{2, 1}}}, []api.Pair{
			{L: api.Term{3, 1}, R: api.Term{0}}, {L: api.Term{3, 2, 1}, R: api.Term{0}},
			{L: api.Term{2, 1}, R: api.Term{1}},
			{L: api.Term{5, 0, 0}, R: api.Term{3, 3, 1}}, {L: api.Term{5, 1, 3, 0}, R: api.Term{3, 3, 1}}, {L: api.Term{5, 0, 3, 1}, R: api.Term{3, 3, 1}}, {L: api.Term{5, 2, 1, 3, 0}, R: api.Term{3, 3, 1}}, {L: api.Term{5, 0, 3, 2, 1}, R: api.Term{3, 3, 1}},
			{L: api.Term{1}, R: api.Term{2, 1}},
		}},
	} {
		if got, e := All(c.l); !same(got, c.want) || e != api.OK {
			t.Errorf("All(%v): %v %d, want %v", c.l, got, e, c.want)
		}
	}
}

func TestHowManyPairs(t *testing.T) { // H1
	for _, c := range []struct {
		l    []api.Rule
		want int // 0: too many
	}{
		{[]api.Rule{shorten(2, 21), shorten(3, 21)}, api.MaxEqs},
		{[]api.Rule{shorten(2, 22), shorten(3, 21)}, 0},
		{[]api.Rule{shorten(2, 21), shorten(3, 22)}, 0},
		{[]api.Rule{shorten(2, 29), shorten(3, 13)}, api.MaxEqs},
		{[]api.Rule{shorten(2, 29), shorten(3, 29)}, 0},
		{slices.Repeat([]api.Rule{shorten(2, 1)}, 6), 30},
		{slices.Repeat([]api.Rule{shorten(2, 1)}, 7), 0},
		{slices.Repeat([]api.Rule{shorten(2, 1)}, api.MaxRules), 0},
	} {
		got, e := All(c.l)
		if c.want == 0 && (len(got) != 0 || e != api.ErrMany) || c.want > 0 && (len(got) != c.want || e != api.OK) {
			t.Errorf("All(%v): %d pairs, %d, want %d", c.l, len(got), e, c.want)
		}
	}
	// Of is not bounded so: there are no more places than that.
	if got, e := Of([]api.Rule{shorten(2, 29)}, 0, 0); len(got) != 28 || e != api.OK {
		t.Errorf("%d pairs, %d", len(got), e)
	}
}

// tree: a sign and its parts.
type tree struct {
	sign  int
	parts []tree
}

// sprout: the first tree of a list, its variables so much lower, and what stands behind it.
func sprout(t api.Term, lower int) (tree, api.Term) {
	out, rest := tree{sign: t[0]}, t[1:]
	if t[0] < 0 {
		out.sign -= lower
	}
	for range max(0, t[0]/2) {
		var part tree
		part, rest = sprout(rest, lower)
		out.parts = append(out.parts, part)
	}
	return out, rest
}

// flat: the tree as a list, its variables bound.
func flat(t tree, bound map[int]tree) api.Term {
	if b, ok := bound[t.sign]; ok {
		return flat(b, bound)
	}
	out := api.Term{t.sign}
	for _, part := range t.parts {
		out = append(out, flat(part, bound)...)
	}
	return out
}

// bind variables, that both trees are the same.
func bind(a, b tree, bound map[int]tree) bool {
	if u, ok := bound[a.sign]; ok {
		return bind(u, b, bound)
	}
	if u, ok := bound[b.sign]; ok {
		return bind(a, u, bound)
	}
	switch {
	case a.sign < 0 && a.sign == b.sign:
		return true
	case a.sign < 0:
		if slices.Contains(flat(b, bound), a.sign) {
			return false
		}
		bound[a.sign] = b
		return true
	case b.sign < 0:
		return bind(b, a, bound)
	case a.sign != b.sign:
		return false
	}
	for k := range a.parts {
		if !bind(a.parts[k], b.parts[k], bound) {
			return false
		}
	}
	return true
}

// renamed: both lists, as one behind the other, with variables that begin with -1.
func renamed(left, right api.Term) api.Pair {
	var seen []int
	all := slices.Concat(left, right)
	for k, sign := range all {
		if sign >= 0 {
			continue
		}
		if !slices.Contains(seen, sign) {
			seen = append(seen, sign)
		}
		all[k] = -1 - slices.Index(seen, sign)
	}
	return api.Pair{L: all[:len(left)], R: all[len(left):]}
}

// slow: the pairs by trees; false, if something is too large.
func slow(l []api.Rule, i, j int) ([]api.Pair, bool) {
	var out []api.Pair
	other, _ := sprout(l[j].L, api.Own)
	to, _ := sprout(l[j].R, api.Own)
	from, _ := sprout(l[i].R, 0)
	for at, sign := range l[i].L {
		if sign < 0 || i == j && at == 0 {
			continue
		}
		part, rest := sprout(l[i].L[at:], 0)
		bound := map[int]tree{}
		if !bind(part, other, bound) {
			continue
		}
		for v := range bound {
			if len(flat(tree{sign: v}, bound)) > api.MaxSize {
				return nil, false
			}
		}
		var left api.Term
		for _, sign := range l[i].L[:at] {
			left = append(left, flat(tree{sign: sign}, bound)...)
		}
		left = append(left, flat(to, bound)...)
		for _, sign := range rest {
			left = append(left, flat(tree{sign: sign}, bound)...)
		}
		right := flat(from, bound)
		if len(left) > api.MaxSize || len(right) > api.MaxSize {
			return nil, false
		}
		out = append(out, renamed(left, right))
	}
	return out, true
}

// drawnRules that rules.Check finds no fault with.
func drawnRules(d *draw) []api.Rule {
	var l []api.Rule
	for want := 1 + d.below(3); len(l) < want; {
		r := api.Rule{L: drawn(d, 3+d.below(12), 1+d.below(api.Own)), R: drawn(d, 8, 3)}
		if rules.Check([]api.Rule{r}) == api.OK {
			l = append(l, r)
		}
	}
	return l
}

func TestPairsAreThoseOfTheSlowWay(t *testing.T) { // H1
	d := draw(53)
	var some, several, many int
	for range 4000 {
		l := drawnRules(&d)
		var all []api.Pair
		fine := true
		for i := range l {
			for j := range l {
				want, is := slow(l, i, j)
				got, e := Of(l, i, j)
				if !same(got, want) || is != (e == api.OK) || !is && e != api.ErrMany {
					t.Fatalf("Of(%v, %d, %d): %v %d, want %v %v", l, i, j, got, e, want, is)
				}
				all, fine = append(all, want...), fine && is
			}
		}
		got, e := All(l)
		switch {
		case !fine || len(all) > api.MaxEqs:
			many++
			if len(got) != 0 || e != api.ErrMany {
				t.Fatalf("All(%v): %v %d, want %d", l, got, e, api.ErrMany)
			}
			continue
		case len(all) > 3:
			several++
		case len(all) > 0:
			some++
		}
		if !same(got, all) || e != api.OK {
			t.Fatalf("All(%v): %v %d, want %v", l, got, e, all)
		}
	}
	if some < 500 || several < 200 || many < 20 {
		t.Errorf("%d have some pairs, %d several, %d were too large", some, several, many)
	}
}

// roomy: the list with spare room behind it, in which each number is 77.
func roomy(l []int) []int {
	return append(slices.Clone(l), slices.Repeat([]int{77}, 40)...)[:len(l)]
}

// scribble over a list and the spare room behind it.
func scribble(l []int) {
	l = l[:cap(l)]
	for k := range l {
		l[k] = 55
	}
}

// roomyRules: the rules with spare room behind each list, and all those lists with their room.
func roomyRules(from []api.Rule) ([]api.Rule, [][]int) {
	var all [][]int
	var l []api.Rule
	for _, r := range from {
		r = api.Rule{L: roomy(r.L), R: roomy(r.R)}
		all = append(all, r.L[:cap(r.L)], r.R[:cap(r.R)])
		l = append(l, r)
	}
	spare := api.Rule{L: roomy([]int{77}), R: roomy([]int{77})}
	all = append(all, spare.L[:cap(spare.L)], spare.R[:cap(spare.R)])
	return append(l, spare)[:len(l)], all
}

func TestOnlyRead(t *testing.T) { // P2
	l, all := roomyRules(group())
	var was [][]int
	for _, x := range all {
		was = append(was, slices.Clone(x))
	}
	head := slices.Clone(l[:len(l)+1])
	of, e := Of(l, 2, 1)
	got, u := All(l)
	if e != api.OK || u != api.OK {
		t.Fatalf("%d %d", e, u)
	}
	if !reflect.DeepEqual(all, was) || !reflect.DeepEqual(head, l[:len(l)+1]) {
		t.Fatalf("changed: %v, was %v", all, was)
	}
	for _, x := range all {
		scribble(x)
	}
	want, _ := All(group())
	if !reflect.DeepEqual(got, want) || !reflect.DeepEqual(of, want[1:2]) {
		t.Errorf("kept what was handed in: %v %v", of, got)
	}
}

func TestAnswersAreNew(t *testing.T) { // P2
	for _, l := range [][]api.Rule{group(), {shorten(2, 3), shorten(2, 3)}, {{L: api.Term{0}, R: api.Term{1}}, {L: api.Term{0}, R: api.Term{1}}}} {
		got, e := All(l)
		want, u := All(l)
		if e != api.OK || u != api.OK || len(got) == 0 {
			t.Fatalf("All(%v): %v %d %d", l, got, e, u)
		}
		var lists, clean []api.Term
		for k := range got {
			lists = append(lists, got[k].L, got[k].R)
			clean = append(clean, want[k].L, want[k].R)
		}
		for k := range lists {
			scribble(lists[k])
			for i := k + 1; i < len(lists); i++ {
				if !slices.Equal(lists[i], clean[i]) {
					t.Errorf("All(%v): lists %d and %d share memory", l, k, i)
				}
			}
		}
		if again, _ := All(l); !reflect.DeepEqual(again, want) {
			t.Errorf("shared with what was handed in: %v", l)
		}
	}
}

func TestSameAgain(t *testing.T) { // P3
	ask := func() []any {
		got, e := All(group())
		of, u := Of(group(), 2, 2)
		return []any{got, e, of, u}
	}
	first := ask()
	for range 20 {
		All([]api.Rule{shorten(2, 29), shorten(3, 29)})
		Of(nil, 0, 0)
		Of(group(), 1, -1)
		if again := ask(); !reflect.DeepEqual(first, again) {
			t.Fatalf("first %v, then %v", first, again)
		}
	}
}
