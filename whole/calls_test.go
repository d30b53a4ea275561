package whole

import (
	"math"
	"reflect"
	"slices"
	"strings"
	"testing"

	"hasp/api"
	"hasp/close"
	"hasp/desk"
	"hasp/join"
	"hasp/lean"
	"hasp/match"
	"hasp/norm"
	"hasp/order"
	"hasp/pairs"
	"hasp/rules"
	"hasp/sub"
	"hasp/term"
	"hasp/text"
	"hasp/unify"
)

// handed: something for each kind of thing that a call may be handed.
type handed struct {
	T, U api.Term
	K, J int
	S, V []api.Term
	L    []api.Rule
	E    []api.Pair
	Rank []int
	Text string
}

// all answers of a call, in order.
func all(answers ...any) []any { return answers }

// calls: each call that the document lists.
func calls() map[string]func(h handed) []any {
	return map[string]func(h handed) []any{
		"term.Check":  func(h handed) []any { return all(term.Check(h.T)) },
		"term.End":    func(h handed) []any { return all(term.End(h.T, h.K)) },
		"term.Part":   func(h handed) []any { return all(term.Part(h.T, h.K)) },
		"term.Put":    func(h handed) []any { return all(term.Put(h.T, h.K, h.U)) },
		"sub.Check":   func(h handed) []any { return all(sub.Check(h.S)) },
		"sub.None":    func(h handed) []any { return all(sub.None(), api.OK) },
		"sub.Apply":   func(h handed) []any { return all(sub.Apply(h.S, h.T)) },
		"sub.After":   func(h handed) []any { return all(sub.After(h.S, h.V)) },
		"sub.Plain":   func(h handed) []any { return all(sub.Plain(h.T)) },
		"match.Fit":   func(h handed) []any { return all(match.Fit(h.T, h.U)) },
		"match.Over":  func(h handed) []any { return all(match.Over(h.T, h.U)) },
		"unify.Meet":  func(h handed) []any { return all(unify.Meet(h.T, h.U)) },
		"unify.All":   func(h handed) []any { return all(unify.All(h.E)) },
		"order.Check": func(h handed) []any { return all(order.Check(h.Rank)) },
		"order.Above": func(h handed) []any { return all(order.Above(h.Rank, h.T, h.U)) },
		"rules.Check": func(h handed) []any { return all(rules.Check(h.L)) },
		"rules.Falls": func(h handed) []any { return all(rules.Falls(h.Rank, h.L)) },
		"rules.Steps": func(h handed) []any { return all(rules.Steps(h.L, h.T)) },
		"norm.Form":   func(h handed) []any { return all(norm.Form(h.L, h.T)) },
		"norm.Is":     func(h handed) []any { return all(norm.Is(h.L, h.T)) },
		"pairs.Of":    func(h handed) []any { return all(pairs.Of(h.L, h.K, h.J)) },
		"pairs.All":   func(h handed) []any { return all(pairs.All(h.L)) },
		"join.Pair":   func(h handed) []any { return all(join.Pair(h.L, api.Pair{L: h.T, R: h.U})) },
		"join.All":    func(h handed) []any { return all(join.All(h.L)) },
		"close.Turn":  func(h handed) []any { return all(close.Turn(h.Rank, h.L, h.E)) },
		"close.Run":   func(h handed) []any { return all(close.Run(h.Rank, h.E)) },
		"lean.All":    func(h handed) []any { return all(lean.All(h.L, h.T)) },
		"text.Show":   func(h handed) []any { return all(text.Show(h.T)) },
		"text.Read":   func(h handed) []any { return all(text.Read(h.Text)) },
		"desk.Play":   func(h handed) []any { return all(desk.Play(h.Text)) },
	}
}

// few: is it one of so many that are wrong? Most of what is handed in is right, so that calls get beyond their first question.
func few(d *draw) bool { return d.below(12) == 0 }

// anyTerm: most are terms. Each has spare room behind it.
func anyTerm(d *draw, most, vars int) api.Term {
	t := drawn(d, most, vars)
	if few(d) {
		switch d.below(6) {
		case 0:
			t = nil
		case 1:
			t = t[:len(t)-1]
		case 2:
			t = append(t, d.below(20)-12)
		case 3:
			t[d.below(len(t))] = []int{6, -9, math.MaxInt, math.MinInt}[d.below(4)]
		case 4:
			t = slices.Repeat(t, 31)
		case 5:
			t = append(slices.Repeat(api.Term{2}, api.MaxSize-1+d.below(2)), -1)
		}
	}
	return append(slices.Clone(t), 71, 72, 73)[:len(t)]
}

func anyTerms(d *draw) []api.Term {
	var out []api.Term
	for range api.Vars {
		out = append(out, anyTerm(d, 4, api.Vars))
	}
	if few(d) {
		out = out[:d.below(api.Vars)]
	}
	return out
}

// anyText: a term, lines, or nothing of it.
func anyText(t *testing.T, d *draw) string {
	var lines []string
	for range d.below(14) {
		one, _ := text.Show(drawn(d, 10, 5))
		other, _ := text.Show(drawn(d, 10, 3))
		law := known[d.below(len(known))]
		lines = append(lines, []string{"say " + law, "rule " + strings.Replace(law, "=", ">", 1), "close", "rules", "meet", "form " + one, "same " + one + " " + other, "above " + one + " " + other, one, ""}[d.below(10)])
	}
	switch d.below(8) {
	case 0, 1:
		one, _ := text.Show(drawn(d, 12, 8))
		return one
	case 2:
		return strings.Repeat([]string{"g(", "x", "\n", "\xff", "rules\n"}[d.below(5)], d.below(3000))
	case 3:
		return strings.Join(lines, "\n")
	}
	return strings.Join(append(lines, ""), "\n")
}

func anything(t *testing.T, d *draw) handed {
	h := handed{
		T: anyTerm(d, 10, 4), U: anyTerm(d, 8, 4), K: d.below(6), J: d.below(3), S: anyTerms(d), V: anyTerms(d),
		L: append(drawnRules(t, d), api.Rule{})[:1+d.below(2)], E: drawnLaws(t, d), Rank: slices.Clone(rising), Text: anyText(t, d),
	}
	if d.below(3) == 0 {
		h.L = slices.Repeat(h.L, d.below(5))
		h.E = slices.Repeat(h.E, d.below(30))
	}
	if few(d) {
		h.L = append(h.L, api.Rule{L: anyTerm(d, 6, 5), R: anyTerm(d, 4, 5)})
		h.E = append(h.E, api.Pair{L: anyTerm(d, 6, 8), R: anyTerm(d, 4, 8)})
	}
	if few(d) {
		h.K, h.J = []int{-1, math.MinInt, math.MaxInt, 30}[d.below(4)], -1
	}
	if few(d) {
		h.Rank[d.below(api.Syms)] = d.below(9) - 2
	}
	if few(d) {
		h.Rank = append(h.Rank, 6)[:d.below(8)]
	}
	return h
}

// span: from which address to which one a list lies, its spare room too.
type span struct {
	from, to uintptr
	what     reflect.Value
}

// spans of all lists within a thing.
func spans(v reflect.Value) []span {
	var out []span
	switch v.Kind() {
	case reflect.Interface:
		if !v.IsNil() {
			return spans(v.Elem())
		}
	case reflect.Struct:
		for k := range v.NumField() {
			out = append(out, spans(v.Field(k))...)
		}
	case reflect.Slice:
		if v.Cap() > 0 {
			whole := v.Slice(0, v.Cap())
			out = append(out, span{v.Pointer(), v.Pointer() + uintptr(v.Cap())*v.Type().Elem().Size(), whole})
		}
		for k := range v.Len() {
			out = append(out, spans(v.Index(k))...)
		}
	}
	return out
}

// apart: do no two of the answer's lists share memory, nor one of them with what was handed in?
func apart(answer []any, h handed) bool {
	own := []span{}
	for _, a := range answer {
		own = append(own, spans(reflect.ValueOf(a))...)
	}
	theirs := spans(reflect.ValueOf(h))
	for k, one := range own {
		for _, other := range slices.Concat(own[k+1:], theirs) {
			if one.from < other.to && other.from < one.to {
				return false
			}
		}
	}
	return true
}

// kept: all that lies in the lists of what was handed in, the spare room too.
func kept(h handed) []any {
	out := []any{h.K, h.J, h.Text}
	for _, s := range spans(reflect.ValueOf(h)) {
		if l, ok := s.what.Interface().([]int); ok {
			out = append(out, slices.Clone(l))
		} else if l, ok := s.what.Interface().(api.Term); ok {
			out = append(out, slices.Clone(l))
		}
	}
	return out
}

// nothing: is it a zero value, or a list without elements?
func nothing(a any) bool {
	v := reflect.ValueOf(a)
	return v.IsZero() || v.Kind() == reflect.Slice && v.Len() == 0
}

// same answers; an empty list may be nil or not.
func same(a, b []any) bool {
	return slices.EqualFunc(a, b, func(a, b any) bool { return nothing(a) && nothing(b) || reflect.DeepEqual(a, b) })
}

func TestEachCall(t *testing.T) { // P1, P2, P3
	d := draw(120)
	told := map[string]map[api.Errno]int{}
	for range 1000 {
		h := anything(t, &d)
		was := kept(h)
		for name, call := range calls() {
			got := call(h)
			last := len(got) - 1
			e := got[last].(api.Errno)
			if e < api.OK || e > api.ErrOrder {
				t.Fatalf("%s(%v): error %d", name, h, e)
			}
			if e != api.OK && slices.ContainsFunc(got[:last], func(a any) bool { return !nothing(a) }) {
				t.Fatalf("%s(%v): %v beside an error", name, h, got)
			}
			if now := kept(h); !reflect.DeepEqual(was, now) {
				t.Fatalf("%s changed what it was handed: %v, now %v", name, was, now)
			}
			if !apart(got, h) {
				t.Fatalf("%s(%v): lists of %v share memory", name, h, got)
			}
			if again := call(h); !same(got, again) {
				t.Fatalf("%s(%v): %v, then %v", name, h, got, again)
			}
			if told[name] == nil {
				told[name] = map[api.Errno]int{}
			}
			told[name][e]++
		}
	}
	for name, errors := range told {
		if errors[api.OK] < 100 || name != "sub.None" && len(errors) < 2 {
			t.Errorf("%s told these errors: %v", name, errors)
		}
	}
}

// An empty list may be handed in as nil or not.
func TestNilOrEmpty(t *testing.T) { // P1, P2
	one := handed{Rank: rising}
	other := handed{T: api.Term{}, U: api.Term{}, S: []api.Term{}, V: []api.Term{}, L: []api.Rule{}, E: []api.Pair{}, Rank: rising}
	for _, good := range []api.Term{nil, {2, 0}} {
		if good != nil {
			one.T, one.U, other.T, other.U = good, good, good, good
		}
		for name, call := range calls() {
			if a, b := call(one), call(other); !same(a, b) {
				t.Errorf("%s: %v, and %v", name, a, b)
			}
		}
	}
}

// If a call kept what it answered, a change of that would be seen later.
func TestNothingIsKept(t *testing.T) { // P2, P3
	d := draw(121)
	for range 200 {
		h := anything(t, &d)
		for name, call := range calls() {
			want, got := call(h), call(h)
			for _, s := range spans(reflect.ValueOf(got)) {
				if l, ok := s.what.Interface().(api.Term); ok {
					clear(l)
				}
			}
			if again := call(h); !same(again, want) {
				t.Fatalf("%s(%v): %v, and once an answer was changed %v", name, h, want, again)
			}
		}
	}
}
