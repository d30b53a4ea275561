// Package whole: tests of what the whole promises, over all layers by their calls alone.
package whole

import (
	"slices"
	"strings"
	"testing"

	"hasp/api"
	"hasp/rules"
	"hasp/text"
)

// rising: symbol k ranks k.
var rising = []int{0, 1, 2, 3, 4, 5}

// read a term that must be one.
func read(t *testing.T, s string) api.Term {
	t.Helper()
	one, e := text.Read(s)
	if e != api.OK {
		t.Fatalf("Read(%q): error %d", s, e)
	}
	return one
}

// law: `L = R`.
func law(t *testing.T, s string) api.Pair {
	t.Helper()
	l, r, _ := strings.Cut(s, " = ")
	return api.Pair{L: read(t, l), R: read(t, r)}
}

// group: three rules of a group, each as the law it is of.
func group(t *testing.T) []api.Rule {
	t.Helper()
	var l []api.Rule
	for _, s := range []string{"f(a,x) = x", "f(g(x),x) = a", "f(f(x,y),z) = f(x,f(y,z))"} {
		l = append(l, api.Rule(law(t, s)))
	}
	return l
}

// become: the list by which each variable becomes itself, but for those that are told, as `x = g(y)`.
func become(t *testing.T, told ...string) []api.Term {
	t.Helper()
	var out []api.Term
	for k := range api.Vars {
		out = append(out, api.Term{-1 - k})
	}
	for _, s := range told {
		p := law(t, s)
		out[-1-p.L[0]] = p.R
	}
	return out
}

// draw: numbers that are the same each time.
type draw uint32

func (d *draw) below(n int) int {
	*d = *d*1664525 + 1013904223
	return int(uint32(*d)>>8) % n
}

// drawn term of at most so many signs, with variables from -1 to -vars.
func drawn(d *draw, most, vars int) api.Term {
	kind := d.below(4)
	if most >= 3 && kind > 1 {
		one := drawn(d, most-2, vars)
		return slices.Concat(api.Term{4 + d.below(2)}, one, drawn(d, most-1-len(one), vars))
	}
	if most >= 2 && kind == 1 {
		return slices.Concat(api.Term{2 + d.below(2)}, drawn(d, most-1, vars))
	}
	return api.Term{d.below(vars+2) - vars}
}

// large: a drawn term of at most so many signs, and of at least half as many.
func large(d *draw, most, vars int) api.Term {
	for {
		if t := drawn(d, most, vars); 2*len(t) >= most {
			return t
		}
	}
}

// drawnList: what each variable becomes.
func drawnList(d *draw, most int) []api.Term {
	var out []api.Term
	for range api.Vars {
		out = append(out, drawn(d, most, api.Vars))
	}
	return out
}

// known: laws that are known well; each that is no rule from left to right is one from right to left.
var known = []string{"f(a,x) = x", "f(x,a) = x", "f(g(x),x) = a", "f(f(x,y),z) = f(x,f(y,z))", "g(g(x)) = x", "g(a) = b", "h(h(x)) = h(x)", "h(g(x)) = g(h(x))", "k(x,x) = x", "x = g(h(x))", "k(f(x,y),z) = f(k(x,z),k(y,z))", "f(h(x),h(y)) = h(f(x,y))"}

// drawnLaw: one that is known, or one that is drawn.
func drawnLaw(t *testing.T, d *draw) api.Pair {
	if d.below(3) > 0 {
		return law(t, known[d.below(len(known))])
	}
	return api.Pair{L: drawn(d, 6, 2), R: drawn(d, 4, 2)}
}

func drawnLaws(t *testing.T, d *draw) []api.Pair {
	var e []api.Pair
	for range 1 + d.below(3) {
		e = append(e, drawnLaw(t, d))
	}
	return e
}

// drawnRules: some that fall, each.
func drawnRules(t *testing.T, d *draw) []api.Rule {
	var l []api.Rule
	for many := 1 + d.below(3); len(l) < many; {
		r := api.Rule(drawnLaw(t, d))
		if is, e := rules.Falls(rising, []api.Rule{r}); is && e == api.OK {
			l = append(l, r)
		}
	}
	return l
}
