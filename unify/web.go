package unify

import (
	"hasp/api"
	"hasp/signs"
	"hasp/sub"
)

// web: terms, one behind the other, and which of their places are tied. Places are tied, not copies of what stands there: so what must be the same is asked of two places once, however often variables lead there.
type web struct {
	all  api.Term    // each variable by itself, and behind them the terms
	tied map[int]int // from a place to another one that must be the same
}

// newWeb: nothing is tied yet.
func newWeb() *web {
	w := &web{tied: map[int]int{}}
	for _, v := range sub.None() {
		w.lay(v)
	}
	return w
}

// lay a term behind all others: where it begins.
func (w *web) lay(t api.Term) int {
	begin := len(w.all)
	w.all = append(w.all, t...)
	return begin
}

// head: the place that stands for all that are tied to this one: that of a symbol, if there is one among them, else that of the variable with the least number.
func (w *web) head(place int) int {
	if sign := w.all[place]; sign < 0 {
		place = -1 - sign
	}
	for {
		next, ok := w.tied[place]
		if !ok {
			return place
		}
		place = next
	}
}

// tie the terms at both places, and whatever must be the same then; false, if they can't be.
func (w *web) tie(one, other int) bool {
	one, other = w.head(one), w.head(other)
	if one == other {
		return true
	}
	// The greater sign stays: symbols are greater than variables, and -1 than -2.
	if w.all[one] < w.all[other] {
		one, other = other, one
	}
	w.tied[other] = one
	if w.all[other] < 0 {
		return true
	}
	return w.all[one] == w.all[other] && w.tieParts(one, other)
}

// tieParts of two places at which the same symbol stands.
func (w *web) tieParts(one, other int) bool {
	against := other + 1
	for part := range signs.Parts(w.all, one) {
		if !w.tie(part, against) {
			return false
		}
		against = signs.End(w.all, against)
	}
	return true
}

// How far turnsBack has got with a place.
const (
	begun = 1 + iota
	done
)

// turnsBack: would a variable have to stand within what it becomes? It is enough to set out from variables: terms end, so none turns back but over one.
func (w *web) turnsBack() bool {
	state := map[int]int{}
	for v := range api.Vars {
		if w.leadsBack(v, state) {
			return true
		}
	}
	return false
}

// leadsBack: does what the place becomes, or something in it, hold itself?
func (w *web) leadsBack(place int, state map[int]int) bool {
	place = w.head(place)
	switch state[place] {
	case begun:
		return true
	case done:
		return false
	}
	state[place] = begun
	for part := range signs.Parts(w.all, place) {
		if w.leadsBack(part, state) {
			return true
		}
	}
	state[place] = done
	return false
}

// grown: the list, and behind it what the place becomes. It is left as soon as it is too large: what a few short terms say may have millions of signs.
func (w *web) grown(out api.Term, place int) api.Term {
	if len(out) == api.MaxSize {
		panic(api.ErrMany)
	}
	place = w.head(place)
	out = append(out, w.all[place])
	for part := range signs.Parts(w.all, place) {
		out = w.grown(out, part)
	}
	return out
}
