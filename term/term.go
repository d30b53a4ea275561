// Package term: terms: see doc/01-term.md.
package term

import (
	"slices"

	"hasp/api"
	"hasp/signs"
)

// Check: see the chapter.
func Check(t api.Term) api.Errno {
	if len(t) > api.MaxSize {
		return api.ErrMany
	}
	for _, sign := range t {
		if !signs.Known(sign) {
			return api.ErrRange
		}
	}
	if signs.End(t, 0) != len(t) {
		return api.ErrForm
	}
	return api.OK
}

// End: see the chapter.
func End(t api.Term, k int) (int, api.Errno) {
	if e := Check(t); e != api.OK {
		return 0, e
	}
	if !hasPlace(t, k) {
		return 0, api.ErrRange
	}
	return signs.End(t, k), api.OK
}

// Part: see the chapter.
func Part(t api.Term, k int) (api.Term, api.Errno) {
	end, e := End(t, k)
	if e != api.OK {
		return nil, e
	}
	return slices.Clone(t[k:end]), api.OK
}

// Put: see the chapter.
func Put(t api.Term, k int, u api.Term) (api.Term, api.Errno) {
	if e := Check(t); e != api.OK {
		return nil, e
	}
	if e := Check(u); e != api.OK {
		return nil, e
	}
	if !hasPlace(t, k) {
		return nil, api.ErrRange
	}
	out := slices.Concat(t[:k], u, t[signs.End(t, k):])
	if len(out) > api.MaxSize {
		return nil, api.ErrMany
	}
	return out, api.OK
}

func hasPlace(t api.Term, k int) bool { return 0 <= k && k < len(t) }
