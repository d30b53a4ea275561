package sub

import (
	"reflect"
	"slices"
	"testing"

	"hasp/api"
)

// tower: so many signs, one upon the other, the last one as told.
func tower(n, last int) api.Term {
	return append(slices.Repeat(api.Term{2}, n-1), last)
}

// with: each variable becomes itself, but variable v.
func with(v int, t api.Term) []api.Term {
	s := None()
	s[-1-v] = t
	return s
}

// draw: numbers that are the same each time.
type draw uint32

func (d *draw) below(n int) int {
	*d = *d*1664525 + 1013904223
	return int(uint32(*d)>>8) % n
}

// drawn term of at most so many signs.
func drawn(d *draw, most int) api.Term {
	kind := d.below(4)
	if most >= 3 && kind > 1 {
		one := drawn(d, most-2)
		return slices.Concat(api.Term{4 + d.below(2)}, one, drawn(d, most-1-len(one)))
	}
	if most >= 2 && kind == 1 {
		return slices.Concat(api.Term{2 + d.below(2)}, drawn(d, most-1))
	}
	return api.Term{d.below(api.Vars+2) - api.Vars}
}

// drawnList: what variables become, each of at most so many signs.
func drawnList(d *draw, most int) []api.Term {
	s := None()
	for k := range s {
		s[k] = drawn(d, most)
	}
	return s
}

var wrongLists = []struct {
	name string
	s    []api.Term
	want api.Errno
}{
	{"nil", nil, api.ErrForm},
	{"empty", []api.Term{}, api.ErrForm},
	{"one too few", None()[1:], api.ErrForm},
	{"one too many", append(None(), api.Term{0}), api.ErrForm},
	{"very many", make([]api.Term, 5000), api.ErrForm},
	{"form of the list ahead of its terms", append(with(-1, api.Term{9}), nil), api.ErrForm},
	{"form of the short list ahead of its terms", with(-2, api.Term{9})[1:], api.ErrForm},
	{"terms that are none", make([]api.Term, api.Vars), api.ErrForm},
	{"first is none", with(-1, api.Term{4, 0}), api.ErrForm},
	{"last is none", with(-8, api.Term{}), api.ErrForm},
	{"first has no such sign", with(-1, api.Term{6}), api.ErrRange},
	{"last has no such sign", with(-8, api.Term{-9}), api.ErrRange},
	{"one is too large", with(-4, tower(api.MaxSize+1, 0)), api.ErrMany},
	{"range, and behind it form", []api.Term{{0}, {9}, {2}, {0}, {0}, {0}, {0}, {0}}, api.ErrRange},
	{"form, and behind it range", []api.Term{{0}, {2}, {9}, {0}, {0}, {0}, {0}, {0}}, api.ErrForm},
	{"range, and behind it many", []api.Term{{0}, {9}, make(api.Term, 31), {0}, {0}, {0}, {0}, {0}}, api.ErrRange},
	{"many, and behind it form", []api.Term{make(api.Term, 31), {2}, {0}, {0}, {0}, {0}, {0}, {0}}, api.ErrMany},
}

var wrongTerms = []struct {
	t    api.Term
	want api.Errno
}{
	{nil, api.ErrForm},
	{api.Term{}, api.ErrForm},
	{api.Term{4, -1}, api.ErrForm},
	{api.Term{-1, -1}, api.ErrForm},
	{api.Term{6}, api.ErrRange},
	{api.Term{4, -9}, api.ErrRange},
	{tower(api.MaxSize+1, -1), api.ErrMany},
	{append(tower(api.MaxSize, -1), 9), api.ErrMany},
}

func TestCheck(t *testing.T) { // B1
	good := [][]api.Term{None(), with(-1, tower(api.MaxSize, -8)), slices.Repeat([]api.Term{{0}}, api.Vars), slices.Repeat([]api.Term{tower(api.MaxSize, -1)}, api.Vars)}
	for _, s := range good {
		if e := Check(s); e != api.OK {
			t.Errorf("Check(%v) = %d", s, e)
		}
	}
	for _, w := range wrongLists {
		if e := Check(w.s); e != w.want {
			t.Errorf("%s: Check = %d, want %d", w.name, e, w.want)
		}
	}
}

func TestNone(t *testing.T) { // B1
	want := []api.Term{{-1}, {-2}, {-3}, {-4}, {-5}, {-6}, {-7}, {-8}}
	if got := None(); !reflect.DeepEqual(got, want) {
		t.Errorf("None: %v", got)
	}
	d := draw(3)
	for range 50 {
		one := drawn(&d, api.MaxSize)
		if got, e := Apply(None(), one); !slices.Equal(got, one) || e != api.OK {
			t.Errorf("Apply of None to %v: %v %d", one, got, e)
		}
	}
}

func TestApply(t *testing.T) { // B1
	swap := None()
	swap[0], swap[1] = api.Term{2, -2}, api.Term{-1}
	all := []api.Term{{0}, {1}, {2, 0}, {3, 1}, {-1}, {-6}, {4, -8, -7}, {5, 0, -1}}
	for _, c := range []struct {
		s       []api.Term
		t, want api.Term
	}{
		{swap, api.Term{4, -1, -2}, api.Term{4, 2, -2, -1}},
		{swap, api.Term{5, -1, 4, -1, -3}, api.Term{5, 2, -2, 4, 2, -2, -3}},
		{swap, api.Term{0}, api.Term{0}},
		{all, api.Term{-1}, api.Term{0}},
		{all, api.Term{4, -2, -3}, api.Term{4, 1, 2, 0}},
		{all, api.Term{5, -4, -5}, api.Term{5, 3, 1, -1}},
		{all, api.Term{5, 4, -6, -7, -8}, api.Term{5, 4, -6, 4, -8, -7, 5, 0, -1}},
		{all, api.Term{4, 3, 1, 2, 0}, api.Term{4, 3, 1, 2, 0}},
	} {
		if got, e := Apply(c.s, c.t); !slices.Equal(got, c.want) || e != api.OK {
			t.Errorf("Apply(%v, %v): %v %d, want %v", c.s, c.t, got, e, c.want)
		}
	}
}

func TestApplyErrors(t *testing.T) { // B1
	for _, w := range wrongLists {
		if got, e := Apply(w.s, api.Term{4, -1, 2, 0}); len(got) != 0 || e != w.want {
			t.Errorf("%s: Apply: %v %d, want %d", w.name, got, e, w.want)
		}
		for _, b := range wrongTerms {
			if got, e := Apply(w.s, b.t); len(got) != 0 || e != w.want {
				t.Errorf("%s, ahead of the term's: Apply: %v %d, want %d", w.name, got, e, w.want)
			}
		}
	}
	for _, b := range wrongTerms {
		if got, e := Apply(None(), b.t); len(got) != 0 || e != b.want {
			t.Errorf("Apply to %v: %v %d, want %d", b.t, got, e, b.want)
		}
	}
}

func TestApplyMany(t *testing.T) { // B1
	for _, c := range []struct {
		s    []api.Term
		t    api.Term
		want int
	}{
		{with(-1, tower(api.MaxSize, 0)), api.Term{-1}, api.MaxSize},
		{with(-1, tower(api.MaxSize-1, 0)), api.Term{2, -1}, api.MaxSize},
		{with(-1, tower(api.MaxSize, 0)), api.Term{2, -1}, 0},
		{with(-1, tower(api.MaxSize, 0)), api.Term{2, -2}, 2},
		{with(-8, api.Term{2, -8}), tower(api.MaxSize-1, -8), api.MaxSize},
		{with(-8, api.Term{2, -8}), tower(api.MaxSize, -8), 0},
		{with(-1, tower(14, 0)), api.Term{4, -1, -1}, 29},
		{with(-1, tower(15, 0)), api.Term{4, -1, -1}, 0},
		{with(-1, tower(14, 0)), api.Term{4, -1, 2, -1}, api.MaxSize},
	} {
		wantErr := api.OK
		if c.want == 0 {
			wantErr = api.ErrMany
		}
		if got, e := Apply(c.s, c.t); len(got) != c.want || e != wantErr {
			t.Errorf("Apply to %v: %v %d, want %d signs, %d", c.t, got, e, c.want, wantErr)
		}
	}
}

func TestAfter(t *testing.T) { // B2
	s, u := None(), None()
	s[0], s[1], s[2] = api.Term{4, -2, -3}, api.Term{0}, api.Term{-1}
	u[0], u[1], u[7] = api.Term{2, -4}, api.Term{-1}, api.Term{1}
	want := []api.Term{{4, -1, -3}, {0}, {2, -4}, {-4}, {-5}, {-6}, {-7}, {1}}
	if got, e := After(s, u); !reflect.DeepEqual(got, want) || e != api.OK {
		t.Errorf("After: %v %d, want %v", got, e, want)
	}
	for _, c := range [][2][]api.Term{{s, None()}, {None(), s}} {
		if got, e := After(c[0], c[1]); !reflect.DeepEqual(got, s) || e != api.OK {
			t.Errorf("After with None: %v %d, want %v", got, e, s)
		}
	}
}

func TestAfterIsOneThenTheOther(t *testing.T) { // B2
	d := draw(7)
	held := 0
	for range 3000 {
		s, u, one := drawnList(&d, 4), drawnList(&d, 4), drawn(&d, 9)
		both, e := After(s, u)
		if e != api.OK {
			t.Fatalf("After(%v, %v) = %d", s, u, e)
		}
		first, e := Apply(s, one)
		if e != api.OK {
			continue
		}
		then, e := Apply(u, first)
		at, f := Apply(both, one)
		if e != f || !slices.Equal(then, at) {
			t.Fatalf("%v by %v then %v: %v %d, by After: %v %d", one, s, u, then, e, at, f)
		}
		held++
	}
	if held < 1000 {
		t.Errorf("only %d were held against each other", held)
	}
}

func TestAfterErrors(t *testing.T) { // B2
	for _, w := range wrongLists {
		if got, e := After(w.s, None()); len(got) != 0 || e != w.want {
			t.Errorf("%s: After: %v %d, want %d", w.name, got, e, w.want)
		}
		if got, e := After(None(), w.s); len(got) != 0 || e != w.want {
			t.Errorf("%s, behind: After: %v %d, want %d", w.name, got, e, w.want)
		}
		for _, x := range wrongLists {
			if got, e := After(w.s, x.s); len(got) != 0 || e != w.want {
				t.Errorf("%s, then %s: After: %v %d, want %d", w.name, x.name, got, e, w.want)
			}
		}
	}
}

func TestAfterMany(t *testing.T) { // B2
	for v := -1; v >= -api.Vars; v-- {
		grow := slices.Repeat([]api.Term{{2, -1}}, api.Vars)
		if got, e := After(with(v, tower(api.MaxSize-1, -3)), grow); e != api.OK || len(got) != api.Vars || len(got[-1-v]) != api.MaxSize {
			t.Errorf("MaxSize signs of %d: %v %d", v, got, e)
		}
		if got, e := After(with(v, tower(api.MaxSize, -3)), grow); e != api.ErrMany || len(got) != 0 {
			t.Errorf("one more of %d: %v %d", v, got, e)
		}
		if got, e := After(with(v, tower(api.MaxSize, 1)), grow); e != api.OK || len(got) != api.Vars {
			t.Errorf("no variable in %d: %v %d", v, got, e)
		}
	}
	if got, e := After(with(-1, tower(api.MaxSize, -1)), with(-1, api.Term{9})); e != api.ErrRange || len(got) != 0 {
		t.Errorf("an error of the second ahead of too many: %v %d", got, e)
	}
}

func TestPlain(t *testing.T) { // B2
	for _, c := range [][2]api.Term{
		{{0}, {0}},
		{{-1}, {-1}},
		{{-8}, {-1}},
		{{4, -2, -1}, {4, -1, -2}},
		{{4, -8, -8}, {4, -1, -1}},
		{{5, 4, -3, -7, 4, -7, -1}, {5, 4, -1, -2, 4, -2, -3}},
		{{4, 2, 0, 5, 1, 3, -4}, {4, 2, 0, 5, 1, 3, -1}},
		{{4, -8, 4, -7, 4, -6, 4, -5, 4, -4, 4, -3, 4, -2, -1}, {4, -1, 4, -2, 4, -3, 4, -4, 4, -5, 4, -6, 4, -7, -8}},
		{tower(api.MaxSize, -5), tower(api.MaxSize, -1)},
	} {
		if got, e := Plain(c[0]); !slices.Equal(got, c[1]) || e != api.OK {
			t.Errorf("Plain(%v): %v %d, want %v", c[0], got, e, c[1])
		}
		if got, e := Plain(c[1]); !slices.Equal(got, c[1]) || e != api.OK {
			t.Errorf("Plain(%v), which is: %v %d", c[1], got, e)
		}
	}
	for _, b := range wrongTerms {
		if got, e := Plain(b.t); len(got) != 0 || e != b.want {
			t.Errorf("Plain(%v): %v %d, want %d", b.t, got, e, b.want)
		}
	}
}

// copied: a list and its terms, each with spare room behind it, in which each number is 77.
func copied(s []api.Term) []api.Term {
	var out []api.Term
	for _, t := range s {
		out = append(out, append(slices.Clone(t), slices.Repeat(api.Term{77}, 40)...)[:len(t)])
	}
	return append(out, api.Term{77})[:len(s)]
}

// all: the lists and the spare room behind them, as they are now.
func all(lists ...[]api.Term) []api.Term {
	var out []api.Term
	for _, s := range lists {
		for _, t := range s[:len(s)+1] {
			out = append(out, slices.Clone(t[:cap(t)]))
		}
	}
	return out
}

// scribble over terms and the spare room behind each.
func scribble(terms ...api.Term) {
	for _, t := range terms {
		t = t[:cap(t)]
		for k := range t {
			t[k] = 55
		}
	}
}

func TestOnlyRead(t *testing.T) { // P2
	d := draw(11)
	s, u, one := copied(drawnList(&d, 4)), copied(drawnList(&d, 4)), copied([]api.Term{{4, -1, 5, -7, 0}})
	was := all(s, u, one)
	Check(s)
	applied, e := Apply(s, one[0])
	after, f := After(s, u)
	plain, g := Plain(one[0])
	if e != api.OK || f != api.OK || g != api.OK {
		t.Fatalf("errors: %d %d %d", e, f, g)
	}
	if now := all(s, u, one); !reflect.DeepEqual(now, was) {
		t.Fatalf("changed: %v, was %v", now, was)
	}
	answers := append([]api.Term{applied, plain}, after...)
	kept := make([]api.Term, len(answers))
	for k, a := range answers {
		kept[k] = slices.Clone(a)
	}
	scribble(s...)
	scribble(u...)
	scribble(one...)
	if !reflect.DeepEqual(answers, kept) {
		t.Errorf("kept what was handed in: %v, was %v", answers, kept)
	}
	changeEach(t, answers)
}

// changeEach: no change of one answer is seen in another one.
func changeEach(t *testing.T, answers []api.Term) {
	t.Helper()
	for k := range answers {
		var want []api.Term
		for _, a := range answers {
			want = append(want, slices.Clone(a))
		}
		scribble(answers[k])
		for i := range answers {
			if i != k && !slices.Equal(answers[i], want[i]) {
				t.Errorf("%d and %d share memory", k, i)
			}
		}
	}
}

func TestAnswersShareNothing(t *testing.T) { // P2
	same := api.Term{4, -1, 0}
	s := slices.Repeat([]api.Term{same}, api.Vars)
	after, _ := After(s, None())
	changeEach(t, after)
	if !slices.Equal(same, api.Term{4, -1, 0}) {
		t.Errorf("shared with what was handed in: %v", same)
	}
	changeEach(t, None())
	applied, _ := Apply(s, api.Term{-1})
	scribble(applied)
	if !slices.Equal(same, api.Term{4, -1, 0}) {
		t.Errorf("shared with what was handed in: %v", same)
	}
}

func TestSameAgain(t *testing.T) { // P3
	d := draw(5)
	s, u := drawnList(&d, 4), drawnList(&d, 4)
	one := api.Term{5, -3, 4, -7, -3}
	ask := func() []any {
		a, e := Apply(s, one)
		b, f := After(s, u)
		p, g := Plain(one)
		return []any{Check(s), None(), a, e, b, f, p, g}
	}
	first := ask()
	scribble(None()...)
	Plain(api.Term{4, -8, -6})
	for _, w := range wrongLists {
		After(w.s, u)
	}
	if again := ask(); !reflect.DeepEqual(first, again) {
		t.Errorf("first %v, then %v", first, again)
	}
}
