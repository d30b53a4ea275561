package close

import (
	"reflect"
	"slices"
	"testing"

	"hasp/api"
)

var rising, falling = []int{0, 1, 2, 3, 4, 5}, []int{5, 4, 3, 2, 1, 0}

// tower: so many signs, one upon the other, the last one as told.
func tower(n, last int) api.Term {
	return append(slices.Repeat(api.Term{2}, n-1), last)
}

// rule and pair of two terms.
func rule(l, r api.Term) api.Rule { return api.Rule{L: l, R: r} }
func pair(l, r api.Term) api.Pair { return api.Pair{L: l, R: r} }

// still: so many pairs of which nothing comes.
func still(n int) []api.Pair {
	return slices.Repeat([]api.Pair{{L: api.Term{0}, R: api.Term{0}}}, n)
}

// swap: neither is above the other.
func swap() api.Pair { return pair(api.Term{4, -1, -2}, api.Term{4, -2, -1}) }

// ground: rules that have no pairs, as many as there may be.
func ground() []api.Rule {
	return []api.Rule{
		rule(api.Term{2, 0}, api.Term{0}), rule(api.Term{2, 1}, api.Term{1}), rule(api.Term{3, 0}, api.Term{0}), rule(api.Term{3, 1}, api.Term{1}),
		rule(api.Term{4, 0, 0}, api.Term{0}), rule(api.Term{4, 0, 1}, api.Term{1}), rule(api.Term{4, 1, 0}, api.Term{1}), rule(api.Term{5, 0, 1}, api.Term{0}),
	}
}

// group: what holds in a group, as pairs.
func group() []api.Pair {
	return []api.Pair{
		pair(api.Term{4, 0, -1}, api.Term{-1}),
		pair(api.Term{4, 2, -1, -1}, api.Term{0}),
		pair(api.Term{4, 4, -1, -2, -3}, api.Term{4, -1, 4, -2, -3}),
	}
}

// sameRules, samePairs: an empty list may be nil or not.
func sameRules(a, b []api.Rule) bool { return len(a)+len(b) == 0 || reflect.DeepEqual(a, b) }
func samePairs(a, b []api.Pair) bool { return len(a)+len(b) == 0 || reflect.DeepEqual(a, b) }

// turned: Turn tells these, by the rank in which symbol k ranks k.
func turned(t *testing.T, l []api.Rule, e []api.Pair, wantRules []api.Rule, wantPairs []api.Pair) {
	t.Helper()
	m, rest, err := Turn(rising, l, e)
	if !sameRules(m, wantRules) || !samePairs(rest, wantPairs) || err != api.OK {
		t.Errorf("Turn(%v, %v): %v %v %d, want %v %v", l, e, m, rest, err, wantRules, wantPairs)
	}
}

// refused: Turn tells that error, and nothing else.
func refused(t *testing.T, want api.Errno, rank []int, l []api.Rule, e []api.Pair) {
	t.Helper()
	if m, rest, err := Turn(rank, l, e); len(m) != 0 || len(rest) != 0 || err != want {
		t.Errorf("Turn(%v, %v, %v): %v %v %d, want %d", rank, l, e, m, rest, err, want)
	}
}

func TestTurnOfTheSame(t *testing.T) { // J1
	back := []api.Rule{rule(api.Term{2, 2, -1}, api.Term{-1})}
	rest := []api.Pair{pair(api.Term{0}, api.Term{1}), pair(api.Term{2, -8}, api.Term{-8})}
	for _, first := range []api.Pair{
		pair(api.Term{0}, api.Term{0}),
		pair(api.Term{-8}, api.Term{-8}),
		pair(api.Term{2, 2, 0}, api.Term{0}),
		pair(api.Term{2, -3}, api.Term{2, 2, 2, 2, 2, -3}),
		pair(api.Term{4, 2, 2, -5, -6}, api.Term{4, -5, 2, 2, -6}),
	} {
		turned(t, back, append([]api.Pair{first}, rest...), back, rest)
		turned(t, back, []api.Pair{first}, back, nil)
	}
	turned(t, nil, still(1), nil, nil)
	turned(t, nil, still(api.MaxEqs), nil, still(api.MaxEqs-1))
	turned(t, ground(), still(1), ground(), nil)
	// As it is, not made plain.
	odd := []api.Rule{rule(api.Term{2, 3, -4}, api.Term{-4})}
	turned(t, odd, still(1), odd, nil)
}

func TestTurnMakesARule(t *testing.T) { // J1
	for _, c := range []struct {
		l    []api.Rule
		p    api.Pair
		want api.Rule
	}{
		// each of the two above the other
		{nil, pair(api.Term{3, 0}, api.Term{2, 0}), rule(api.Term{3, 0}, api.Term{2, 0})},
		{nil, pair(api.Term{2, 0}, api.Term{3, 0}), rule(api.Term{3, 0}, api.Term{2, 0})},
		{nil, pair(api.Term{0}, api.Term{1}), rule(api.Term{1}, api.Term{0})},
		{nil, pair(api.Term{4, 4, 0, 0, 1}, api.Term{4, 0, 4, 0, 1}), rule(api.Term{4, 4, 0, 0, 1}, api.Term{4, 0, 4, 0, 1})},
		{nil, pair(api.Term{4, 0, 4, 0, 1}, api.Term{4, 4, 0, 0, 1}), rule(api.Term{4, 4, 0, 0, 1}, api.Term{4, 0, 4, 0, 1})},
		// variables made plain, by the order of the one that is above
		{nil, pair(api.Term{2, -7}, api.Term{-7}), rule(api.Term{2, -1}, api.Term{-1})},
		{nil, pair(api.Term{-7}, api.Term{2, -7}), rule(api.Term{2, -1}, api.Term{-1})},
		{nil, pair(api.Term{4, -2, -1}, api.Term{5, -1, -2}), rule(api.Term{5, -1, -2}, api.Term{4, -2, -1})},
		{nil, pair(api.Term{4, -1, -2}, api.Term{5, -2, -1}), rule(api.Term{5, -1, -2}, api.Term{4, -2, -1})},
		{nil, pair(api.Term{5, -8, -2}, api.Term{3, -2}), rule(api.Term{5, -1, -2}, api.Term{3, -2})},
		{nil, pair(api.Term{5, 5, -8, -7, 5, -6, -5}, api.Term{4, 4, -5, -7, -8}), rule(api.Term{5, 5, -1, -2, 5, -3, -4}, api.Term{4, 4, -4, -2, -1})},
		// of the Forms
		{[]api.Rule{rule(api.Term{2, 2, -1}, api.Term{-1})}, pair(api.Term{2, 2, 0}, api.Term{2, 2, 1}), rule(api.Term{1}, api.Term{0})},
		{[]api.Rule{rule(api.Term{2, 1}, api.Term{0})}, pair(api.Term{4, 2, 1, -3}, api.Term{2, 1}), rule(api.Term{4, 0, -1}, api.Term{0})},
		// so that one with five variables has four of them
		{[]api.Rule{rule(api.Term{5, -1, -2}, api.Term{-1})}, pair(api.Term{4, 5, -1, -8, 4, -2, 4, -3, -4}, api.Term{0}), rule(api.Term{4, -1, 4, -2, 4, -3, -4}, api.Term{0})},
	} {
		m, _, err := Turn(rising, c.l, []api.Pair{c.p})
		if err != api.OK || len(m) == 0 || !reflect.DeepEqual(m[len(m)-1], c.want) {
			t.Errorf("Turn(%v, %v): %v %d, want %v behind them", c.l, c.p, m, err, c.want)
		}
	}
	// By another rank the other way.
	one := []api.Pair{pair(api.Term{3, -1}, api.Term{2, -1})}
	if m, rest, err := Turn(falling, nil, one); !sameRules(m, []api.Rule{rule(api.Term{2, -1}, api.Term{3, -1})}) || len(rest) != 0 || err != api.OK {
		t.Errorf("Turn(%v, %v): %v %v %d", falling, one, m, rest, err)
	}
}

func TestNeitherIsAbove(t *testing.T) { // J1
	five := api.Term{4, -8, 4, -7, 4, -6, 4, -5, -4}
	for _, c := range []struct {
		p    api.Pair
		want api.Errno
	}{
		{swap(), api.ErrOrder},
		{pair(api.Term{-1}, api.Term{0}), api.ErrOrder},
		{pair(api.Term{0}, api.Term{-1}), api.ErrOrder},
		{pair(api.Term{-1}, api.Term{-2}), api.ErrOrder},
		{pair(api.Term{3, -1}, api.Term{2, -2}), api.ErrOrder},
		// a variable below -Own when made plain, whatever it was
		{pair(five, api.Term{0}), api.ErrRange},
		{pair(api.Term{0}, five), api.ErrRange},
		{pair(api.Term{-4}, api.Term{4, -1, 4, -2, 4, -3, 4, -4, -5}), api.ErrRange},
		{pair(api.Term{5, 5, 5, -1, -2, 5, -3, -4, 5, 5, -5, -6, 5, -7, -8}, api.Term{-8}), api.ErrRange},
		// and neither above
		{pair(five, api.Term{4, -4, 4, -8, 4, -7, 4, -6, -5}), api.ErrOrder},
	} {
		refused(t, c.want, rising, nil, []api.Pair{c.p})
		refused(t, c.want, rising, ground(), append([]api.Pair{c.p}, still(3)...))
		// Only the first one counts.
		turned(t, nil, append(still(1), c.p), nil, []api.Pair{c.p})
	}
}

func TestRulesThatAreTakenAway(t *testing.T) { // J1
	idle := rule(api.Term{5, -1, -1}, api.Term{-1})
	deep := rule(api.Term{3, 2, 0}, api.Term{1})
	wide := rule(api.Term{4, 2, 0, -2}, api.Term{-2})
	lone := rule(api.Term{2, 0}, api.Term{1})
	rest := []api.Pair{pair(api.Term{3, 1}, api.Term{-5})}
	ground0 := append([]api.Pair{pair(api.Term{2, 0}, api.Term{0})}, rest...)
	fresh := rule(api.Term{2, 0}, api.Term{0})
	for _, c := range []struct {
		l, stay []api.Rule
		away    []api.Pair
	}{
		// none, one, several, all
		{[]api.Rule{idle}, []api.Rule{idle, fresh}, nil},
		{[]api.Rule{idle, deep}, []api.Rule{idle, fresh}, []api.Pair{api.Pair(deep)}},
		{[]api.Rule{deep, idle}, []api.Rule{idle, fresh}, []api.Pair{api.Pair(deep)}},
		{[]api.Rule{deep, idle, wide}, []api.Rule{idle, fresh}, []api.Pair{api.Pair(deep), api.Pair(wide)}},
		{[]api.Rule{wide, idle, deep}, []api.Rule{idle, fresh}, []api.Pair{api.Pair(wide), api.Pair(deep)}},
		{[]api.Rule{wide, deep}, []api.Rule{fresh}, []api.Pair{api.Pair(wide), api.Pair(deep)}},
		{[]api.Rule{deep, deep}, []api.Rule{fresh}, []api.Pair{api.Pair(deep), api.Pair(deep)}},
	} {
		turned(t, c.l, ground0, c.stay, slices.Concat(rest, c.away))
	}
	// That the R of a rule could go on is nothing that takes it away.
	right := rule(api.Term{5, 0, 1}, api.Term{3, 2, 0})
	turned(t, []api.Rule{right}, ground0, []api.Rule{right, fresh}, rest)
	// It fits at place 0, and a variable of the rule does not fit a symbol of the new one.
	open := pair(api.Term{2, -2}, api.Term{-2})
	turned(t, []api.Rule{lone, deep}, append([]api.Pair{open}, rest...), []api.Rule{rule(api.Term{2, -1}, api.Term{-1})}, slices.Concat(rest, []api.Pair{api.Pair(lone), api.Pair(deep)}))
	start := rule(api.Term{4, -1, 0}, api.Term{-1})
	turned(t, []api.Rule{start}, []api.Pair{pair(api.Term{4, 0, -1}, api.Term{-1})}, []api.Rule{start, rule(api.Term{4, 0, -1}, api.Term{-1})},
		[]api.Pair{pair(api.Term{0}, api.Term{0}), pair(api.Term{0}, api.Term{0})})
}

// The rest, then rules that were taken away, then the pairs of each rule with the new one and of the new one with it, rule by rule, then those of the new one with itself.
func TestWherePairsStand(t *testing.T) { // J1
	fresh := pair(api.Term{3, 3, -6}, api.Term{-6})
	ends := rule(api.Term{3, 0}, api.Term{1})
	under := rule(api.Term{2, 3, -1}, api.Term{-1})
	both := rule(api.Term{3, 2, 3, -1}, api.Term{-1})
	away := rule(api.Term{2, 3, 3, -1}, api.Term{2, -1})
	made := rule(api.Term{3, 3, -1}, api.Term{-1})
	rest := []api.Pair{pair(api.Term{-8}, api.Term{0}), pair(api.Term{1}, api.Term{0})}
	ofEnds := []api.Pair{pair(api.Term{3, 1}, api.Term{0})}
	ofUnder := []api.Pair{pair(api.Term{2, -1}, api.Term{3, -1})}
	ofBoth := []api.Pair{pair(api.Term{3, 2, -1}, api.Term{3, -1}), pair(api.Term{3, -1}, api.Term{2, 3, -1})}
	itself := []api.Pair{pair(api.Term{3, -1}, api.Term{3, -1})}
	for _, c := range []struct {
		l, stay []api.Rule
		more    [][]api.Pair
	}{
		{nil, nil, [][]api.Pair{itself}},
		{[]api.Rule{ends}, []api.Rule{ends}, [][]api.Pair{ofEnds, itself}},
		{[]api.Rule{under}, []api.Rule{under}, [][]api.Pair{ofUnder, itself}},
		{[]api.Rule{both}, []api.Rule{both}, [][]api.Pair{ofBoth, itself}},
		{[]api.Rule{ends, under}, []api.Rule{ends, under}, [][]api.Pair{ofEnds, ofUnder, itself}},
		{[]api.Rule{under, ends}, []api.Rule{under, ends}, [][]api.Pair{ofUnder, ofEnds, itself}},
		{[]api.Rule{ends, both, under}, []api.Rule{ends, both, under}, [][]api.Pair{ofEnds, ofBoth, ofUnder, itself}},
		{[]api.Rule{both, both}, []api.Rule{both, both}, [][]api.Pair{ofBoth, ofBoth, itself}},
		{[]api.Rule{both, away, ends}, []api.Rule{both, ends}, [][]api.Pair{{api.Pair(away)}, ofBoth, ofEnds, itself}},
	} {
		turned(t, c.l, append([]api.Pair{fresh}, rest...), append(slices.Clone(c.stay), made), slices.Concat(rest, slices.Concat(c.more...)))
	}
}

func TestHowManyRules(t *testing.T) { // J1
	fresh := pair(api.Term{5, 1, 1}, api.Term{1})
	for n := range api.MaxRules {
		turned(t, ground()[:n], []api.Pair{fresh}, append(ground()[:n], api.Rule(fresh)), nil)
	}
	refused(t, api.ErrMany, rising, ground(), []api.Pair{fresh})
	// One that is taken away makes room.
	over := pair(api.Term{5, -1, 1}, api.Term{-1})
	turned(t, ground(), []api.Pair{over}, append(ground()[:api.MaxRules-1], api.Rule(over)), []api.Pair{api.Pair(ground()[api.MaxRules-1])})
}

func TestHowManyPairs(t *testing.T) { // J1
	two := pair(api.Term{2, 2, -1}, api.Term{-1})
	three := pair(api.Term{2, 2, 2, -1}, api.Term{-1})
	away := rule(api.Term{5, 2, 2, 0, 1}, api.Term{0})
	for _, c := range []struct {
		l     []api.Rule
		first api.Pair
		rest  int
		want  int // 0: too many
	}{
		{nil, two, 38, 39},
		{nil, two, 39, api.MaxEqs},
		{nil, three, 38, api.MaxEqs},
		{nil, three, 39, 0},
		{[]api.Rule{away}, two, 38, api.MaxEqs},
		{[]api.Rule{away}, two, 39, 0},
		{[]api.Rule{away, away}, two, 37, api.MaxEqs},
		{[]api.Rule{away, away}, two, 38, 0},
		{[]api.Rule{away}, three, 38, api.MaxEqs},
		// pairs of the new rule alone
		{[]api.Rule{rule(append(slices.Repeat(api.Term{3}, 29), -1), api.Term{-1})}, two, 39, api.MaxEqs},
		{nil, pair(append(slices.Repeat(api.Term{3}, 29), -1), api.Term{-1}), 12, api.MaxEqs},
		{nil, pair(append(slices.Repeat(api.Term{3}, 29), -1), api.Term{-1}), 13, 0},
	} {
		e := append([]api.Pair{c.first}, still(c.rest)...)
		if c.want == 0 {
			refused(t, api.ErrMany, rising, c.l, e)
			continue
		}
		if _, rest, err := Turn(rising, c.l, e); len(rest) != c.want || err != api.OK {
			t.Errorf("Turn(%v, %v): %d pairs, %d, want %d", c.l, e, len(rest), err, c.want)
		}
	}
}

func TestTooLargeOnTheWay(t *testing.T) { // J1
	sink := []api.Rule{rule(api.Term{3, 2, -1}, api.Term{2, 3, -1})}
	far := slices.Concat(slices.Repeat(api.Term{3}, 7), slices.Repeat(api.Term{2}, 9), api.Term{1})
	grow := []api.Rule{rule(api.Term{5, -1, -2}, api.Term{4, -1, 4, -2, 4, -1, -2})}
	large := slices.Concat(api.Term{5}, tower(12, 0), tower(12, 0))
	// too many steps, too many signs, in L and in R
	for _, c := range []struct {
		l []api.Rule
		t api.Term
	}{{sink, far}, {grow, large}} {
		refused(t, api.ErrMany, rising, c.l, []api.Pair{pair(c.t, api.Term{0})})
		refused(t, api.ErrMany, rising, c.l, []api.Pair{pair(api.Term{0}, c.t)})
		refused(t, api.ErrMany, rising, c.l, []api.Pair{pair(c.t, c.t)})
		// ahead of what would be told of both
		refused(t, api.ErrMany, rising, c.l, []api.Pair{pair(api.Term{-1}, c.t)})
		// behind the first pair it does not count
		turned(t, c.l, append(still(1), pair(c.t, c.t)), c.l, []api.Pair{pair(c.t, c.t)})
	}
	// the pairs of chapter 8
	twice := []api.Rule{rule(api.Term{4, 3, -1, -1}, api.Term{0})}
	fits := pair(append(api.Term{3}, tower(28, 0)...), api.Term{1})
	turned(t, twice, []api.Pair{fits}, append(slices.Clone(twice), api.Rule(fits)), []api.Pair{pair(append(api.Term{4, 1}, tower(28, 0)...), api.Term{0})})
	refused(t, api.ErrMany, rising, twice, []api.Pair{pair(append(api.Term{3}, tower(29, 0)...), api.Term{1})})
}
