package desk

import (
	"strings"
	"testing"

	"hasp/api"
)

// plays: line by line, what each gives. The lines stand at even places, what they give behind them.
func plays(t *testing.T, lines ...string) {
	t.Helper()
	var script, want strings.Builder
	for k := 0; k < len(lines); k += 2 {
		script.WriteString(lines[k] + "\n")
		want.WriteString(lines[k+1] + "\n")
	}
	if got, e := Play(script.String()); got != want.String() || e != api.OK {
		t.Errorf("Play(%q): %d\n%s\nwant\n%s", script.String(), e, got, want.String())
	}
}

func refused(t *testing.T, want api.Errno, s string) {
	t.Helper()
	if got, e := Play(s); got != "" || e != want {
		t.Errorf("Play(%.60q), %d bytes: %q %d, want error %d", s, len(s), got, e, want)
	}
}

func TestScriptsThatAreNone(t *testing.T) { // M1, P1
	for _, s := range []string{"rules", "x", " ", "\x00", "rules\nrules", "\n ", "\n\r", "rules\n\nx", strings.Repeat("x", api.MaxBytes), strings.Repeat("\n", api.MaxLines) + "x"} {
		refused(t, api.ErrForm, s)
	}
	for _, s := range []string{
		strings.Repeat("x", api.MaxBytes+1),
		strings.Repeat("x", api.MaxBytes) + "\n",
		strings.Repeat("\n", api.MaxBytes),
		strings.Repeat("\n", api.MaxBytes+1),
		strings.Repeat("\n", api.MaxLines+1),
		strings.Repeat("rules\n", api.MaxLines+1),
		// ahead of what its end tells
		strings.Repeat("\n", api.MaxLines+1) + "x",
		strings.Repeat("rules\n", api.MaxBytes),
	} {
		refused(t, api.ErrMany, s)
	}
}

func TestLongScripts(t *testing.T) { // M1, M2
	for _, c := range []struct{ script, want string }{
		{"", ""},
		{"rules\n", "-\n"},
		{"\n", "error 1\n"},
		{"\n\n", "error 1\nerror 1\n"},
		{strings.Repeat("\n", api.MaxLines), strings.Repeat("error 1\n", api.MaxLines)},
		{strings.Repeat("rules\n", api.MaxLines), strings.Repeat("-\n", api.MaxLines)},
		{strings.Repeat("x", api.MaxBytes-1) + "\n", "error 1\n"},
		{"rules\n" + strings.Repeat(" ", api.MaxBytes-7) + "\n", "-\nerror 1\n"},
		{"form " + strings.Repeat("g(", api.MaxBytes/2-3) + "\n", "error 1\n"},
		// as many pairs as there may be
		{strings.Repeat("say a = a\n", api.MaxLines), strings.Repeat("ok\n", api.MaxLines)},
		{strings.Repeat("say a = a\n", 30) + "close\n", strings.Repeat("ok\n", 30) + "0 30\n"},
		{strings.Repeat("say a = a\n", 31) + "close\n", strings.Repeat("ok\n", 31) + "error 2\n"},
	} {
		if got, e := Play(c.script); got != c.want || e != api.OK {
			t.Errorf("Play(%.60q), %d bytes: %q %d, want %q", c.script, len(c.script), got, e, c.want)
		}
	}
}

func TestADay(t *testing.T) { // M1, M2
	plays(t,
		"rules", "-",
		"meet", "yes",
		"form g(g(a))", "g(g(a)) 0",
		"same g(g(x)) x", "no",
		"same f(x,y) f(x,y)", "yes",
		"say g(g(x)) = x", "ok",
		"say g(a) = b", "ok",
		// what is said alone is no rule
		"rules", "-",
		"form g(g(a))", "g(g(a)) 0",
		"close", "3 5",
		"rules", "g(g(x)) > x; g(a) > b; g(b) > a",
		"meet", "yes",
		"form g(g(g(b)))", "a 2",
		"form f(g(a),g(g(z)))", "f(b,z) 2",
		"same g(b) a", "yes",
		"same g(g(g(b))) g(g(a))", "yes",
		"same a b", "no",
		"rule h(x) > g(x)", "ok",
		"rules", "g(g(x)) > x; g(a) > b; g(b) > a; h(x) > g(x)",
		"form h(a)", "b 2",
		// closing again goes by the pairs alone
		"close", "3 5",
		"rules", "g(g(x)) > x; g(a) > b; g(b) > a",
		"say h(x) = x", "ok",
		"close", "4 6",
		"rules", "g(g(x)) > x; g(a) > b; h(x) > x; g(b) > a",
		"form h(h(g(a)))", "b 3")
}

func TestSay(t *testing.T) { // M1
	plays(t,
		"say x = x", "ok",
		"say f(x,s) = f(s,x)", "ok",
		"say a = f(p,q)", "ok",
		"rules", "-")
	// More pairs than there may be: no script has as many lines, so the desk is asked.
	d := &desk{}
	for k := range api.MaxEqs {
		if got := d.play("say a = b"); got != "ok" || len(d.said) != k+1 {
			t.Fatalf("%d: %q", k, got)
		}
	}
	for _, c := range [][2]string{{"say a = b", "error 2"}, {"say a = c", "error 1"}, {"say a", "error 1"}, {"rules", "-"}} {
		if got := d.play(c[0]); got != c[1] || len(d.said) != api.MaxEqs {
			t.Errorf("%q: %q, and %d pairs", c[0], got, len(d.said))
		}
	}
}

func TestRule(t *testing.T) { // M1
	plays(t,
		"rule g(a) > b", "ok",
		"rule b > g(a)", "ok", // rules need not fall
		"rules", "g(a) > b; b > g(a)",
		"rule f(w,z) > k(z,w)", "ok",
		"rules", "g(a) > b; b > g(a); f(w,z) > k(z,w)",
		// rules.Check's errors
		"rule x > a", "error 1",
		"rule x > y", "error 1",
		"rule g(x) > y", "error 4",
		"rule g(p) > p", "error 3",
		"rule g(p) > a", "error 3",
		"rule g(x) > s", "error 3",
		"rule p > a", "error 3",
		"rules", "g(a) > b; b > g(a); f(w,z) > k(z,w)",
		"rule g(a) > b", "ok",
		"rules", "g(a) > b; b > g(a); f(w,z) > k(z,w); g(a) > b")
	var lines []string
	for range api.MaxRules {
		lines = append(lines, "rule g(a) > b", "ok")
	}
	full := strings.Repeat("g(a) > b; ", api.MaxRules-1) + "g(a) > b"
	plays(t, append(lines,
		"rule g(a) > b", "error 2",
		// more rules than there may be is told first
		"rule x > a", "error 2",
		"rule g(x) > y", "error 2",
		// but what is no line, or no term, ahead of it
		"rule g(x) > c", "error 1",
		"rule g(x)", "error 1",
		"rules", full,
		"form g(a)", "b 1")...)
}

func TestClose(t *testing.T) { // M1
	plays(t,
		"close", "0 0",
		"rules", "-",
		"rule a > b", "ok",
		"close", "0 0", // the rules are those that come of the pairs
		"rules", "-",
		"say g(x) = h(x)", "ok",
		"close", "1 1",
		"rules", "h(x) > g(x)", // symbol k ranks k
		"say a = b", "ok",
		"say f(x,y) = k(x,y)", "ok",
		"close", "3 3",
		"rules", "h(x) > g(x); b > a; k(x,y) > f(x,y)")
	// close.Run's errors: nothing has changed then
	plays(t,
		"rule g(a) > b", "ok",
		"say h(b) = b", "ok",
		"say f(x,y) = f(y,x)", "ok",
		"close", "error 6",
		"rules", "g(a) > b",
		"form h(g(a))", "h(b) 1",
		"close", "error 6")
	plays(t,
		"rule g(a) > b", "ok",
		"say f(s,f(r,f(q,f(p,x)))) = a", "ok",
		"close", "error 3",
		"rules", "g(a) > b")
	plays(t,
		"rule g(a) > b", "ok",
		"say f(a,x) = x", "ok",
		"say f(g(x),x) = a", "ok",
		"say f(f(x,y),z) = f(x,f(y,z))", "ok",
		"close", "error 2",
		"rules", "g(a) > b",
		"meet", "yes")
}

func TestForm(t *testing.T) { // M1
	plays(t,
		"rule f(f(x,y),z) > f(x,f(y,z))", "ok",
		"form x", "x 0",
		"form s", "s 0",
		"form f(f(f(p,q),r),s)", "f(p,f(q,f(r,s))) 2",
		"form k(a,f(f(a,b),a))", "k(a,f(a,f(b,a))) 1",
		// without an end, or too large
		"rule h(x) > h(g(x))", "ok",
		"form h(a)", "error 2",
		"form g(h(b))", "error 2",
		"form g(a)", "g(a) 0",
		"rule b > b", "ok",
		"form b", "error 2",
		"form k(a,b)", "error 2")
}

func TestSame(t *testing.T) { // M1
	plays(t,
		"rule g(g(x)) > x", "ok",
		"same g(g(a)) a", "yes",
		"same a g(g(a))", "yes",
		"same g(g(g(x))) g(x)", "yes",
		"same g(x) g(y)", "no",
		"same x x", "yes",
		"same x y", "no",
		"same p s", "no",
		"rule h(x) > h(x)", "ok",
		"same h(a) a", "error 2",
		"same a h(a)", "error 2",
		"same h(a) h(a)", "error 2",
		"same g(g(a)) a", "yes")
}

func TestMeet(t *testing.T) { // M1
	plays(t,
		"meet", "yes",
		"rule g(g(x)) > x", "ok",
		"meet", "yes",
		"rule g(a) > b", "ok",
		"meet", "no",
		"rule g(b) > a", "ok",
		"meet", "yes",
		"rule h(g(x)) > h(h(g(x)))", "ok",
		"meet", "error 2")
	// more pairs than there may be
	var lines []string
	for range 7 {
		lines = append(lines, "rule g(a) > b", "ok", "meet", "yes")
	}
	lines[27] = "error 2"
	plays(t, lines...)
}

func TestAbove(t *testing.T) { // M1
	plays(t,
		"above b a", "yes",
		"above a b", "no",
		"above g(a) b", "yes",
		"above h(x) g(x)", "yes",
		"above k(x,y) f(y,x)", "yes",
		"above f(x,y) k(y,x)", "no",
		"above f(f(x,y),z) f(x,f(y,z))", "yes",
		"above f(x,f(y,z)) f(f(x,y),z)", "no",
		"above f(x,y) f(y,x)", "no",
		"above x y", "no",
		"above x x", "no",
		"above g(x) x", "yes",
		"above g(x) y", "no",
		"above g(s) s", "yes",
		// whatever the rules are
		"rule a > b", "ok",
		"above a b", "no",
		"above b a", "yes")
}

func TestLinesThatAreNone(t *testing.T) { // M1
	for _, line := range []string{
		"", " ", "  ", "x", "a", "ok", "-", "yes", "error 1", "TERM", "\x00", "\xff\xfe", "\r",
		"Say a = b", "SAY a = b", "says a = b", "sa a = b", "ruless", "Rules", "forms a", "play",
		// words that are missing, or too many
		"say", "say a", "say a =", "say a = b c", "say a b", "say = a b", "say a b =", "say a = = b", "say a = b = a", "say = a = b",
		"rule", "rule a", "rule a >", "rule a > b c", "rule a b", "rule > a b", "rule a > b > a",
		"close x", "close a", "close close", "close 1", "rules x", "rules a", "rules 1", "meet x", "meet a", "meet a b", "meet meet",
		"form", "form a b", "form a a", "same", "same a", "same a b a", "same a = b", "above", "above a", "above a b a", "above b > a",
		// another mark
		"say a > b", "say a == b", "say a : b", "say a  b", "say a b b", "rule a = b", "rule a >> b", "rule a -> b", "rule a < b", "rule a a b", "say a TERM b", "rule a TERM b",
		// what is no term
		"say c = a", "say a = c", "say f(a) = b", "say a = g(a,b)", "say TERM = TERM", "say a = B", "rule c > a", "rule a > c", "rule g(x) > g", "rule TERM > TERM", "form c", "form g()", "form (a)", "form TERM", "same a c", "same c a", "above a c", "above c a", "above g a",
		"form " + strings.Repeat("g(", 30) + "a" + strings.Repeat(")", 30),
		// words are parted by one blank, and by nothing else
		" rules", "rules ", " close", "close ", " meet", "meet ", "  rules", "say  a = b", "say a  = b", "say a =  b", " say a = b", "say a = b ", "say a =b", "say a= b", "say a=b", "rule a>b", "rule a > b ", "form  a", "form a ", " form a", "form f(a, b)", "form f( a,b)", "same  a b", "same a  b", "same a b ", "above a b ", "same a,b",
		"say\ta = b", "say a\t= b", "rules\t", "rules\r", "form a\r", "form\u00a0a", "say\va = b", "rules\x00", "forma", "meet;", "close;",
	} {
		plays(t,
			"rule g(a) > b", "ok",
			"say h(x) = x", "ok",
			line, "error 1",
			"rules", "g(a) > b",
			"close", "1 1",
			line, "error 1",
			"rules", "h(x) > x")
	}
}

// draw: numbers that are the same each time.
type draw uint32

func (d *draw) below(n int) int {
	*d = *d*1664525 + 1013904223
	return int(uint32(*d)>>8) % n
}

// drawnLine: most are lines as they must be.
func drawnLine(d *draw) string {
	terms := []string{"a", "b", "x", "y", "p", "g(a)", "g(b)", "g(g(x))", "h(x)", "h(g(x))", "g(h(x))", "f(x,y)", "f(y,x)", "f(a,x)", "f(f(x,y),z)", "f(x,f(y,z))", "k(x,x)", "k(a,g(g(a)))", "h(h(a))", "c"}
	term := func() string { return terms[d.below(len(terms))] }
	switch d.below(9) {
	case 0, 1:
		return "say " + term() + " = " + term()
	case 2, 3:
		return "rule " + term() + " > " + term()
	case 4:
		return "form " + term()
	case 5:
		return "same " + term() + " " + term()
	case 6:
		return "above " + term() + " " + term()
	case 7:
		return []string{"rules", "meet", "close"}[d.below(3)]
	}
	return []string{"rules", "close", "close", "", "close ", "say a", "rule x > a"}[d.below(7)]
}

func drawnScript(d *draw) []string {
	var lines []string
	for range 1 + d.below(api.MaxLines) {
		lines = append(lines, drawnLine(d))
	}
	return lines
}

// given: what each line gave.
func given(t *testing.T, lines []string) []string {
	t.Helper()
	var script strings.Builder
	for _, l := range lines {
		script.WriteString(l + "\n")
	}
	got, e := Play(script.String())
	if e != api.OK || strings.Count(got, "\n") != len(lines) || !strings.HasSuffix(got, "\n") {
		t.Fatalf("Play(%q): %q %d", script.String(), got, e)
	}
	return strings.Split(strings.TrimSuffix(got, "\n"), "\n")
}

func TestWithAnErrorNothingHasChanged(t *testing.T) { // M1
	d := draw(91)
	var errors, good int
	for range 600 {
		lines := drawnScript(&d)
		var left, want []string
		for k, gave := range given(t, lines) {
			if strings.HasPrefix(gave, "error ") {
				errors++
				continue
			}
			good++
			left, want = append(left, lines[k]), append(want, gave)
		}
		if len(left) == 0 {
			continue
		}
		if got := given(t, left); strings.Join(got, "\n") != strings.Join(want, "\n") {
			t.Fatalf("without the lines that had errors %q gives %q, with them %q", left, got, want)
		}
	}
	if errors < 1000 || good < 3000 {
		t.Errorf("%d errors, %d without", errors, good)
	}
}

// A line that only asks changes nothing either.
func TestAskingChangesNothing(t *testing.T) { // M1
	d := draw(92)
	for range 300 {
		lines := drawnScript(&d)
		var left, want []string
		for k, gave := range given(t, lines) {
			if word, _, _ := strings.Cut(lines[k], " "); word == "say" || word == "rule" || word == "close" || k == len(lines)-1 {
				left, want = append(left, lines[k]), append(want, gave)
			}
		}
		if got := given(t, left); strings.Join(got, "\n") != strings.Join(want, "\n") {
			t.Fatalf("%q gives %q, with questions between %q", left, got, want)
		}
	}
}

func TestSameAgain(t *testing.T) { // P3
	d := draw(93)
	for range 100 {
		lines := drawnScript(&d)
		a := given(t, lines)
		Play("rule g(x) > x\nsay a = b\nclose\n")
		Play("x")
		if b := given(t, lines); strings.Join(a, "\n") != strings.Join(b, "\n") {
			t.Fatalf("%q gives %q, then %q", lines, a, b)
		}
	}
	// each script begins with nothing
	plays(t, "rules", "-", "close", "0 0")
}
