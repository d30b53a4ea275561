package text

import (
	"slices"
	"strings"
	"testing"

	"hasp/api"
	"hasp/term"
)

// tower: so many signs, one upon the other, the last one as told.
func tower(n, last int) api.Term {
	return append(slices.Repeat(api.Term{2}, n-1), last)
}

// towerText: what shows the tower of so many signs upon x.
func towerText(n int) string {
	return strings.Repeat("g(", n-1) + "x" + strings.Repeat(")", n-1)
}

// draw: numbers that are the same each time.
type draw uint32

func (d *draw) below(n int) int {
	*d = *d*1664525 + 1013904223
	return int(uint32(*d)>>8) % n
}

// drawn term of at most so many signs.
func drawn(d *draw, most int) api.Term {
	kind := d.below(4)
	if most >= 3 && kind > 1 {
		one := drawn(d, most-2)
		return slices.Concat(api.Term{4 + d.below(2)}, one, drawn(d, most-1-len(one)))
	}
	if most >= 2 && kind == 1 {
		return slices.Concat(api.Term{2 + d.below(2)}, drawn(d, most-1))
	}
	return api.Term{d.below(api.Vars+2) - api.Vars}
}

var shownSo = []struct {
	t api.Term
	s string
}{
	{api.Term{0}, "a"},
	{api.Term{1}, "b"},
	{api.Term{2, 0}, "g(a)"},
	{api.Term{3, 0}, "h(a)"},
	{api.Term{4, 0, 1}, "f(a,b)"},
	{api.Term{5, 0, 1}, "k(a,b)"},
	{api.Term{-1}, "x"},
	{api.Term{-2}, "y"},
	{api.Term{-3}, "z"},
	{api.Term{-4}, "w"},
	{api.Term{-5}, "p"},
	{api.Term{-6}, "q"},
	{api.Term{-7}, "r"},
	{api.Term{-8}, "s"},
	{api.Term{4, -1, 2, 0}, "f(x,g(a))"},
	{api.Term{4, 4, -1, -2, -3}, "f(f(x,y),z)"},
	{api.Term{5, -8, 4, -7, 3, -6}, "k(s,f(r,h(q)))"},
	{api.Term{2, 3, 5, 4, 0, 0, 2, 1}, "g(h(k(f(a,a),g(b))))"},
	{tower(api.MaxSize, -1), towerText(api.MaxSize)},
	{slices.Concat(api.Term{4, 0}, tower(api.MaxSize-2, -1)), "f(a," + towerText(api.MaxSize-2) + ")"},
	{append(slices.Repeat(api.Term{5, -4}, 14), 1), strings.Repeat("k(w,", 14) + "b" + strings.Repeat(")", 14)},
}

func TestShow(t *testing.T) { // L1
	for _, c := range shownSo {
		if s, e := Show(c.t); s != c.s || e != api.OK {
			t.Errorf("Show(%v): %q %d, want %q", c.t, s, e, c.s)
		}
	}
}

func TestShowErrors(t *testing.T) { // L1, P1
	for want, bad := range map[api.Errno][]api.Term{
		api.ErrMany:  {tower(api.MaxSize+1, 0), slices.Repeat(api.Term{99}, 31), slices.Repeat(api.Term{0}, 31)},
		api.ErrRange: {{6}, {-9}, {2, -1 << 62}, {4, 1 << 62}},
		api.ErrForm:  {nil, {}, {2}, {4, 0}, {0, 0}, {-1, -1}, {4, 0, 0, 0}},
	} {
		for _, one := range bad {
			if s, e := Show(one); s != "" || e != want {
				t.Errorf("Show(%v): %q %d, want error %d", one, s, e, want)
			}
		}
	}
}

func TestRead(t *testing.T) { // L1
	for _, c := range shownSo {
		if one, e := Read(c.s); !slices.Equal(one, c.t) || e != api.OK {
			t.Errorf("Read(%q): %v %d, want %v", c.s, one, e, c.t)
		}
	}
}

func TestReadErrors(t *testing.T) { // L1, P1
	for want, bad := range map[api.Errno][]string{
		api.ErrForm: {
			"", " ", "\n", "\x00", "A", "X", "c", "é", "xy", "ab", "0", "-1", "-",
			// parts that are missing, or too many, or of what has none
			"g", "f", "g(", "g()", "g(a", "f(a", "f(a,", "f(a,b", "f(a)", "f()", "f(,)", "f(,a)", "f(a,)", "g(a,b)", "f(a,b,x)", "a()", "a(b)", "x()", "x(a)",
			// what stands beside it, or within
			" a", "a ", "a\n", "a,", "a)", "(a)", "g(a))", "((a))", "g((a))", "f((a,b))", "f(a, b)", "f(a ,b)", "f (a,b)", "g( a)", "f(a;b)", "f[a,b]", "f(a,b)c", "f(a,b)f(a,b)", ",", "(", ")", "g)a(", "f(a)(b)", "f a b", "fab",
			"f(a,b\x00)", "\xff", "g(\xff)", "g(а)",
			// more signs than a term may have
			towerText(api.MaxSize + 1), "f(a," + towerText(api.MaxSize-1) + ")", "f(" + towerText(api.MaxSize-1) + ",a)",
			// as many bytes as there may be
			strings.Repeat("x", api.MaxBytes), strings.Repeat("g(", api.MaxBytes/2), strings.Repeat("f(a,", api.MaxBytes/4), strings.Repeat("(", api.MaxBytes), strings.Repeat("\x00", api.MaxBytes),
			towerText(api.MaxBytes / 3), "a" + strings.Repeat(" ", api.MaxBytes-1),
		},
		api.ErrMany: {strings.Repeat("x", api.MaxBytes+1), strings.Repeat("g(", api.MaxBytes/2+1), "a" + strings.Repeat(" ", api.MaxBytes), strings.Repeat("\xff", 1<<20)},
	} {
		for _, s := range bad {
			if one, e := Read(s); len(one) != 0 || e != want {
				t.Errorf("Read(%.50q), %d bytes: %v %d, want error %d", s, len(s), one, e, want)
			}
		}
	}
}

// back: is the text read, and shown as it was? If it is not read, that must be for its form.
func back(t *testing.T, s string) bool {
	t.Helper()
	one, e := Read(s)
	if e != api.OK {
		if e != api.ErrForm || len(one) != 0 {
			t.Errorf("Read(%q): %v %d", s, one, e)
		}
		return false
	}
	if f := term.Check(one); f != api.OK {
		t.Errorf("Read(%q): %v, which is no term: error %d", s, one, f)
	}
	if again, f := Show(one); again != s || f != api.OK {
		t.Errorf("%q is read as %v, which is shown as %q %d", s, one, again, f)
	}
	return true
}

func TestShownIsReadAsItWas(t *testing.T) { // L2
	d := draw(81)
	for range 5000 {
		one := drawn(&d, 1+d.below(api.MaxSize))
		s, e := Show(one)
		if e != api.OK {
			t.Fatalf("Show(%v): error %d", one, e)
		}
		if again, e := Read(s); !slices.Equal(again, one) || e != api.OK {
			t.Errorf("%v is shown as %q, which is read as %v %d", one, s, again, e)
		}
	}
}

// shortTerms: all texts of terms of at most so many bytes, of a few letters; put together by the grammar, without Show.
func shortTerms(most int) map[string]int {
	all := map[string]int{"a": 1, "x": 1}
	for {
		more := map[string]int{}
		for one := range all {
			more["g("+one+")"] = 1
			for other := range all {
				more["f("+one+","+other+")"] = 1
			}
		}
		was := len(all)
		for s := range more {
			if len(s) <= most {
				all[s] = 1
			}
		}
		if len(all) == was {
			return all
		}
	}
}

func TestNothingElseIsRead(t *testing.T) { // L2
	const letters = "axgf(), A"
	const most = 6
	terms := shortTerms(most)
	read := 0
	level := []string{""}
	for range most {
		var longer []string
		for _, s := range level {
			for k := range letters {
				longer = append(longer, s+letters[k:k+1])
			}
		}
		for _, s := range longer {
			is := back(t, s)
			if is != (terms[s] == 1) {
				t.Fatalf("%q is read: %v", s, is)
			}
			if is {
				read++
			}
		}
		level = longer
	}
	if read != len(terms) {
		t.Errorf("%d of %d are read", read, len(terms))
	}
}

func TestOneByteIsAnother(t *testing.T) { // L2
	var is, not int
	for _, c := range shownSo {
		for k := range c.s {
			for b := range 256 {
				if back(t, c.s[:k]+string([]byte{byte(b)})+c.s[k+1:]) {
					is++
				} else {
					not++
				}
				// one more there, and one less
				if back(t, c.s[:k]+string([]byte{byte(b)})+c.s[k:]) || len(c.s) > 1 && back(t, c.s[:k]+c.s[k+1:]) {
					t.Errorf("%q is a term without its byte %d, or with another one there", c.s, k)
				}
			}
		}
	}
	if is < 500 || not < 50000 {
		t.Errorf("%d are terms, %d are not", is, not)
	}
}

func TestOnlyRead(t *testing.T) { // P2
	one := append(api.Term{4, -1, 2, 0}, 77, 77)[:4]
	if s, e := Show(one); s != "f(x,g(a))" || e != api.OK {
		t.Fatalf("%q %d", s, e)
	}
	if !slices.Equal(one[:6], api.Term{4, -1, 2, 0, 77, 77}) {
		t.Errorf("changed: %v", one[:6])
	}
}

func TestAnswersAreNew(t *testing.T) { // P2
	a, _ := Read("f(x,g(a))")
	b, _ := Read("f(x,g(a))")
	for k := range a[:cap(a)] {
		a[:cap(a)][k] = 55
	}
	if c, _ := Read("f(x,g(a))"); !slices.Equal(b, api.Term{4, -1, 2, 0}) || !slices.Equal(c, b) {
		t.Errorf("an answer is changed: %v, %v", b, c)
	}
	one := api.Term{2, 0}
	s, _ := Show(one)
	one[1] = 1
	if s != "g(a)" {
		t.Errorf("what was shown is %q now", s)
	}
}

func TestSameAgain(t *testing.T) { // P3
	d := draw(82)
	for range 300 {
		one := drawn(&d, 20)
		s, e := Show(one)
		Show(nil)
		Read("g(")
		if again, f := Show(one); s != again || e != f {
			t.Fatalf("Show(%v): %q %d, then %q %d", one, s, e, again, f)
		}
		a, e := Read(s)
		Read(strings.Repeat("x", api.MaxBytes+1))
		if b, f := Read(s); !slices.Equal(a, b) || e != f {
			t.Fatalf("Read(%q): %v %d, then %v %d", s, a, e, b, f)
		}
	}
}
