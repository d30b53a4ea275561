package signs

import "hasp/api"

// Change: a new list, in which each sign of t has become what to says of it.
func Change(t api.Term, to func(sign int) api.Term) api.Term {
	var out api.Term
	for _, sign := range t {
		out = append(out, to(sign)...)
	}
	return out
}

// Apart: the rule with its variables made others, -1 -5 and so on, so that it has none in common with a rule, or a term, of variables from -1 to -Own.
func Apart(r api.Rule) api.Rule {
	other := func(sign int) api.Term {
		if sign < 0 {
			sign -= api.Own
		}
		return api.Term{sign}
	}
	return api.Rule{L: Change(r.L, other), R: Change(r.R, other)}
}

// Plain: the terms as one behind the other, in which the variables, in the order in which they first stand there, have become -1, -2 and so on.
func Plain(terms ...api.Term) []api.Term {
	fresh := map[int]int{}
	rename := func(sign int) api.Term {
		if sign >= 0 {
			return api.Term{sign}
		}
		name, ok := fresh[sign]
		if !ok {
			name = -1 - len(fresh)
			fresh[sign] = name
		}
		return api.Term{name}
	}
	var out []api.Term
	for _, t := range terms {
		out = append(out, Change(t, rename))
	}
	return out
}
