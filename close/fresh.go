package close

import (
	"slices"

	"hasp/api"
	"hasp/match"
	"hasp/order"
	"hasp/pairs"
	"hasp/signs"
)

// directed: the new rule, from the one that is above to the other one.
func directed(rank []int, one, other api.Term) (api.Rule, api.Errno) {
	for _, two := range [][2]api.Term{{one, other}, {other, one}} {
		is, err := order.Above(rank, two[0], two[1])
		if err != api.OK {
			return api.Rule{}, err
		}
		if is {
			return plain(two)
		}
	}
	return api.Rule{}, api.ErrOrder
}

// plain: the rule from the first to the second, its variables made plain. Those of R stand in L, too: else L would not be above it.
func plain(two [2]api.Term) (api.Rule, api.Errno) {
	terms := signs.Plain(two[0], two[1])
	foreign := func(sign int) bool { return sign < -api.Own }
	if slices.ContainsFunc(terms[0], foreign) {
		return api.Rule{}, api.ErrRange
	}
	return api.Rule{L: terms[0], R: terms[1]}, api.OK
}

// with: the rules and the pairs, once the new rule has come. Both lists must be the caller's own: they are told as they are.
func with(l []api.Rule, e []api.Pair, fresh api.Rule) ([]api.Rule, []api.Pair, api.Errno) {
	var stay []api.Rule
	for _, r := range l {
		if over, _ := match.Over(r.L, fresh.L); len(over) > 0 {
			e = append(e, api.Pair(r))
		} else {
			stay = append(stay, r)
		}
	}
	stay = append(stay, fresh)
	if len(stay) > api.MaxRules {
		return nil, nil, api.ErrMany
	}
	more, err := ofLast(stay)
	if err != api.OK {
		return nil, nil, err
	}
	if e = append(e, more...); len(e) > api.MaxEqs {
		return nil, nil, api.ErrMany
	}
	return stay, e, api.OK
}

// ofLast: all pairs of each rule with the last one, and of the last one with it, rule by rule.
func ofLast(l []api.Rule) ([]api.Pair, api.Errno) {
	last := len(l) - 1
	var ways [][2]int
	for k := range last {
		ways = append(ways, [2]int{k, last}, [2]int{last, k})
	}
	ways = append(ways, [2]int{last, last})
	var out []api.Pair
	for _, two := range ways {
		more, err := pairs.Of(l, two[0], two[1])
		if err != api.OK {
			return nil, err
		}
		out = append(out, more...)
	}
	return out, api.OK
}
