package desk

import (
	"slices"
	"strconv"
	"strings"

	"hasp/api"
	"hasp/close"
	"hasp/join"
	"hasp/norm"
	"hasp/order"
	"hasp/rules"
	"hasp/text"
)

// anyTerm stands for a term in what terms is told; every other word there stands for itself.
const anyTerm = "TERM"

func (d *desk) say(behind []string) string {
	two := terms(behind, anyTerm, "=", anyTerm)
	if len(d.said) == api.MaxEqs {
		panic(api.ErrMany)
	}
	d.said = append(d.said, api.Pair{L: two[0], R: two[1]})
	return "ok"
}

func (d *desk) rule(behind []string) string {
	two := terms(behind, anyTerm, ">", anyTerm)
	more := append(slices.Clone(d.held), api.Rule{L: two[0], R: two[1]})
	must(rules.Check(more))
	d.held = more
	return "ok"
}

func (d *desk) close(behind []string) string {
	terms(behind)
	l, turns, e := close.Run(rank(), d.said)
	must(e)
	d.held = l
	return strconv.Itoa(len(l)) + " " + strconv.Itoa(turns)
}

func (d *desk) rules(behind []string) string {
	terms(behind)
	if len(d.held) == 0 {
		return "-"
	}
	var each []string
	for _, r := range d.held {
		each = append(each, show(r.L)+" > "+show(r.R))
	}
	return strings.Join(each, "; ")
}

func (d *desk) form(behind []string) string {
	one := terms(behind, anyTerm)
	t, steps, e := norm.Form(d.held, one[0])
	must(e)
	return show(t) + " " + strconv.Itoa(steps)
}

func (d *desk) same(behind []string) string {
	two := terms(behind, anyTerm, anyTerm)
	is, e := join.Pair(d.held, api.Pair{L: two[0], R: two[1]})
	must(e)
	return yesOrNo(is)
}

func (d *desk) meet(behind []string) string {
	terms(behind)
	is, e := join.All(d.held)
	must(e)
	return yesOrNo(is)
}

func (d *desk) above(behind []string) string {
	two := terms(behind, anyTerm, anyTerm)
	is, e := order.Above(rank(), two[0], two[1])
	must(e)
	return yesOrNo(is)
}

// rank: symbol k ranks k.
func rank() []int {
	var out []int
	for k := range api.Syms {
		out = append(out, k)
	}
	return out
}

// terms of the words, which must be as they are told to be.
func terms(words []string, told ...string) []api.Term {
	if len(words) != len(told) {
		panic(api.ErrForm)
	}
	var out []api.Term
	for k, word := range words {
		if told[k] == anyTerm {
			t, e := text.Read(word)
			must(e)
			out = append(out, t)
		} else if word != told[k] {
			panic(api.ErrForm)
		}
	}
	return out
}

// must leaves the line, unless all is well.
func must(e api.Errno) {
	if e != api.OK {
		panic(e)
	}
}

func show(t api.Term) string {
	s, e := text.Show(t)
	must(e)
	return s
}

func yesOrNo(is bool) string {
	if is {
		return "yes"
	}
	return "no"
}
