// Package sub: what variables become: see doc/02-sub.md.
package sub

import (
	"hasp/api"
	"hasp/signs"
	"hasp/term"
)

// Check: see the chapter.
func Check(s []api.Term) api.Errno {
	if len(s) != api.Vars {
		return api.ErrForm
	}
	for _, t := range s {
		if e := term.Check(t); e != api.OK {
			return e
		}
	}
	return api.OK
}

// None: see the chapter.
func None() []api.Term {
	var out []api.Term
	for k := range api.Vars {
		out = append(out, api.Term{-1 - k})
	}
	return out
}

// Apply: see the chapter.
func Apply(s []api.Term, t api.Term) (api.Term, api.Errno) {
	if e := Check(s); e != api.OK {
		return nil, e
	}
	if e := term.Check(t); e != api.OK {
		return nil, e
	}
	return become(s, t)
}

// After: see the chapter.
func After(s, u []api.Term) ([]api.Term, api.Errno) {
	if e := Check(s); e != api.OK {
		return nil, e
	}
	if e := Check(u); e != api.OK {
		return nil, e
	}
	var out []api.Term
	for _, t := range s {
		b, e := become(u, t)
		if e != api.OK {
			return nil, e
		}
		out = append(out, b)
	}
	return out, api.OK
}

// Plain: see the chapter.
func Plain(t api.Term) (api.Term, api.Errno) {
	if e := term.Check(t); e != api.OK {
		return nil, e
	}
	return signs.Plain(t)[0], api.OK
}

// become is Apply of what has been checked.
func become(s []api.Term, t api.Term) (api.Term, api.Errno) {
	out := signs.Change(t, func(sign int) api.Term {
		if sign < 0 {
			return s[-1-sign]
		}
		return api.Term{sign}
	})
	if len(out) > api.MaxSize {
		return nil, api.ErrMany
	}
	return out, api.OK
}
