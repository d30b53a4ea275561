package order

import (
	"reflect"
	"slices"
	"testing"

	"hasp/api"
	"hasp/sub"
	"hasp/term"
)

// Symbol k ranks k, or the other way round, or neither.
var (
	rising  = []int{0, 1, 2, 3, 4, 5}
	falling = []int{5, 4, 3, 2, 1, 0}
	mixed   = []int{2, 0, 4, 1, 5, 3}
)

// tower: so many signs, one upon the other, the last one as told.
func tower(n, last int) api.Term {
	return append(slices.Repeat(api.Term{2}, n-1), last)
}

// bush: a term in which so many leaves stand, all of them as told.
func bush(leaves, leaf int) api.Term {
	if leaves == 1 {
		return api.Term{leaf}
	}
	return slices.Concat(api.Term{4}, bush(leaves/2, leaf), bush(leaves-leaves/2, leaf))
}

// draw: numbers that are the same each time.
type draw uint32

func (d *draw) below(n int) int {
	*d = *d*1664525 + 1013904223
	return int(uint32(*d)>>8) % n
}

// drawn term of at most so many signs, with variables from -1 to -vars.
func drawn(d *draw, most, vars int) api.Term {
	kind := d.below(4)
	if most >= 3 && kind > 1 {
		one := drawn(d, most-2, vars)
		return slices.Concat(api.Term{4 + d.below(2)}, one, drawn(d, most-1-len(one), vars))
	}
	if most >= 2 && kind == 1 {
		return slices.Concat(api.Term{2 + d.below(2)}, drawn(d, most-1, vars))
	}
	return api.Term{d.below(vars+2) - vars}
}

// ranks: all that there are.
func ranks() [][]int {
	out := [][]int{nil}
	for high := range api.Syms {
		var more [][]int
		for _, r := range out {
			for k := range len(r) + 1 {
				more = append(more, slices.Insert(slices.Clone(r), k, high))
			}
		}
		out = more
	}
	return out
}

var wrongRanks = []struct {
	rank []int
	want api.Errno
}{
	{nil, api.ErrForm},
	{[]int{}, api.ErrForm},
	{[]int{0, 1, 2, 3, 4}, api.ErrForm},
	{[]int{0, 1, 2, 3, 4, 5, 6}, api.ErrForm},
	{[]int{0, 1, 2, 3, 4, 5, 5}, api.ErrForm},
	{[]int{9, 9, 9}, api.ErrForm},
	{make([]int, 5000), api.ErrForm},
	{[]int{0, 1, 2, 3, 4, 4}, api.ErrRange},
	{[]int{1, 1, 2, 3, 4, 5}, api.ErrRange},
	{[]int{5, 4, 3, 3, 1, 0}, api.ErrRange},
	{[]int{0, 0, 0, 0, 0, 0}, api.ErrRange},
	{[]int{1, 2, 3, 4, 5, 6}, api.ErrRange},
	{[]int{0, 1, 2, 3, 4, 6}, api.ErrRange},
	{[]int{-1, 0, 1, 2, 3, 4}, api.ErrRange},
	{[]int{0, 1, 2, 3, 4, -5}, api.ErrRange},
	{[]int{0, 1, 2, 3, 4, 1 << 62}, api.ErrRange},
}

var wrongTerms = []struct {
	t    api.Term
	want api.Errno
}{
	{nil, api.ErrForm},
	{api.Term{}, api.ErrForm},
	{api.Term{4, -1}, api.ErrForm},
	{api.Term{-1, -1}, api.ErrForm},
	{api.Term{2}, api.ErrForm},
	{api.Term{6}, api.ErrRange},
	{api.Term{-9}, api.ErrRange},
	{api.Term{4, -9}, api.ErrRange},
	{tower(api.MaxSize+1, -1), api.ErrMany},
	{append(tower(api.MaxSize, -1), 9), api.ErrMany},
	{make(api.Term, 5000), api.ErrMany},
}

func TestCheck(t *testing.T) { // E1
	all := ranks()
	if len(all) != 720 {
		t.Fatalf("%d ranks", len(all))
	}
	for _, rank := range all {
		if e := Check(rank); e != api.OK {
			t.Errorf("Check(%v): %d", rank, e)
		}
	}
	for _, w := range wrongRanks {
		if e := Check(w.rank); e != w.want {
			t.Errorf("Check(%v): %d, want %d", w.rank, e, w.want)
		}
	}
}

func TestErrors(t *testing.T) { // E1, P1
	ask := func(want api.Errno, rank []int, a, b api.Term) {
		t.Helper()
		if is, e := Above(rank, a, b); is || e != want {
			t.Errorf("Above(%v, %v, %v): %v %d, want %d", rank, a, b, is, e, want)
		}
	}
	for _, r := range wrongRanks {
		ask(r.want, r.rank, api.Term{2, 0}, api.Term{0})
		for _, w := range wrongTerms {
			ask(r.want, r.rank, w.t, api.Term{0})
			ask(r.want, r.rank, api.Term{2, 0}, w.t)
		}
	}
	for _, w := range wrongTerms {
		ask(w.want, mixed, w.t, api.Term{0})
		ask(w.want, mixed, api.Term{-1}, w.t)
		ask(w.want, mixed, api.Term{2, 0}, w.t)
		for _, x := range wrongTerms {
			ask(w.want, mixed, w.t, x.t)
		}
	}
}

func TestAbove(t *testing.T) { // E2
	const a, b, g, h, f, k, x, y, z = 0, 1, 2, 3, 4, 5, -1, -2, -3
	for _, c := range []struct {
		rank     []int
		one, two api.Term
		want     [2]bool // is one above two, and two above one?
	}{
		{rising, api.Term{f, f, x, y, z}, api.Term{f, x, f, y, z}, [2]bool{true, false}},
		{falling, api.Term{f, f, x, y, z}, api.Term{f, x, f, y, z}, [2]bool{true, false}},
		// Symbols without parts are held by how they rank.
		{rising, api.Term{b}, api.Term{a}, [2]bool{true, false}},
		{falling, api.Term{b}, api.Term{a}, [2]bool{false, true}},
		{mixed, api.Term{b}, api.Term{a}, [2]bool{false, true}},
		// Variables are above nothing, and below what they stand in.
		{rising, api.Term{x}, api.Term{y}, [2]bool{false, false}},
		{rising, api.Term{x}, api.Term{a}, [2]bool{false, false}},
		{falling, api.Term{x}, api.Term{a}, [2]bool{false, false}},
		{rising, api.Term{g, x}, api.Term{x}, [2]bool{true, false}},
		{rising, api.Term{g, x}, api.Term{y}, [2]bool{false, false}},
		{rising, api.Term{f, a, k, y, x}, api.Term{x}, [2]bool{true, false}},
		{rising, tower(api.MaxSize, -8), api.Term{-8}, [2]bool{true, false}},
		{rising, tower(api.MaxSize, -8), api.Term{-7}, [2]bool{false, false}},
		// Against their own parts.
		{falling, api.Term{g, h, g, x}, api.Term{h, g, x}, [2]bool{true, false}},
		{falling, api.Term{g, h, g, x}, api.Term{g, x}, [2]bool{true, false}},
		{rising, api.Term{g, h, g, x}, api.Term{h, g, x}, [2]bool{true, false}},
		{falling, api.Term{k, a, b}, api.Term{a}, [2]bool{true, false}},
		{falling, api.Term{k, a, b}, api.Term{b}, [2]bool{true, false}},
		{rising, api.Term{f, x, k, x, y}, api.Term{k, x, y}, [2]bool{true, false}},
		// A part that is above is enough.
		{falling, api.Term{h, g, x}, api.Term{f, x, x}, [2]bool{true, false}},
		{falling, api.Term{k, y, h, x}, api.Term{f, x, x}, [2]bool{true, false}},
		{falling, api.Term{k, h, x, y}, api.Term{f, x, x}, [2]bool{true, false}},
		{falling, api.Term{g, a}, api.Term{b}, [2]bool{true, false}},
		// Other symbols: above all parts, and by how they rank.
		{rising, api.Term{h, x}, api.Term{g, x}, [2]bool{true, false}},
		{falling, api.Term{h, x}, api.Term{g, x}, [2]bool{false, true}},
		{mixed, api.Term{h, x}, api.Term{g, x}, [2]bool{false, true}},
		{rising, api.Term{h, x}, api.Term{g, g, g, x}, [2]bool{true, false}},
		{rising, api.Term{h, x}, api.Term{g, y}, [2]bool{false, false}},
		{rising, api.Term{h, x}, api.Term{f, x, y}, [2]bool{false, true}},
		{rising, api.Term{g, a}, api.Term{b}, [2]bool{true, false}},
		{falling, api.Term{a}, api.Term{g, b}, [2]bool{true, false}},
		{falling, api.Term{a}, api.Term{k, f, b, b, h, g, b}, [2]bool{true, false}},
		{falling, api.Term{a}, api.Term{g, x}, [2]bool{false, false}},
		{falling, api.Term{g, x}, api.Term{f, x, y}, [2]bool{false, false}},
		{rising, api.Term{k, f, x, y, z}, api.Term{f, k, x, z, k, y, z}, [2]bool{true, false}},
		{falling, api.Term{k, f, x, y, z}, api.Term{f, k, x, z, k, y, z}, [2]bool{false, true}},
		// The same symbol: parts that differ at the first place.
		{rising, api.Term{g, b}, api.Term{g, a}, [2]bool{true, false}},
		{falling, api.Term{g, b}, api.Term{g, a}, [2]bool{false, true}},
		{rising, api.Term{f, b, a}, api.Term{f, a, b}, [2]bool{true, false}},
		{falling, api.Term{f, b, a}, api.Term{f, a, b}, [2]bool{false, true}},
		{rising, api.Term{f, g, x, y}, api.Term{f, x, g, y}, [2]bool{true, false}},
		{falling, api.Term{f, g, x, y}, api.Term{f, x, g, y}, [2]bool{false, false}},
		{rising, api.Term{f, g, x, y}, api.Term{f, x, z}, [2]bool{false, false}},
		{rising, api.Term{f, b, a}, api.Term{f, a, f, a, f, b, a}, [2]bool{false, true}},
		{rising, api.Term{f, x, y}, api.Term{f, y, x}, [2]bool{false, false}},
		{rising, api.Term{f, x, x}, api.Term{f, x, y}, [2]bool{false, false}},
		// The same symbol: parts that differ at a later place.
		{rising, api.Term{f, x, g, y}, api.Term{f, x, y}, [2]bool{true, false}},
		{rising, api.Term{k, g, x, b}, api.Term{k, g, x, a}, [2]bool{true, false}},
		{falling, api.Term{k, g, x, b}, api.Term{k, g, x, a}, [2]bool{false, true}},
		{rising, api.Term{k, x, a}, api.Term{k, x, y}, [2]bool{false, false}},
		{rising, api.Term{k, k, x, b, g, y}, api.Term{k, k, x, a, h, y}, [2]bool{true, false}},
		{falling, api.Term{f, g, g, x, f, x, b}, api.Term{f, g, g, x, f, x, a}, [2]bool{false, true}},
	} {
		first, e := Above(c.rank, c.one, c.two)
		second, u := Above(c.rank, c.two, c.one)
		if got := [2]bool{first, second}; got != c.want || e != api.OK || u != api.OK {
			t.Errorf("Above(%v) of %v and %v: %v %d %d, want %v", c.rank, c.one, c.two, got, e, u, c.want)
		}
	}
}

// tree: a sign and its parts.
type tree struct {
	sign  int
	parts []tree
}

// grow the first tree of a list, and tell what stands behind it.
func grow(t api.Term) (tree, api.Term) {
	out, rest := tree{sign: t[0]}, t[1:]
	for range max(0, t[0]/2) {
		var part tree
		part, rest = grow(rest)
		out.parts = append(out.parts, part)
	}
	return out, rest
}

// slow: what Above must answer, as the chapter says it, with nothing kept.
func slow(rank []int, a, b tree) bool {
	if a.sign < 0 {
		return false
	}
	for _, part := range a.parts {
		if reflect.DeepEqual(part, b) || slow(rank, part, b) {
			return true
		}
	}
	if b.sign < 0 {
		return false
	}
	for _, part := range b.parts {
		if !slow(rank, a, part) {
			return false
		}
	}
	if a.sign != b.sign {
		return rank[a.sign] > rank[b.sign]
	}
	for k := range a.parts {
		if !reflect.DeepEqual(a.parts[k], b.parts[k]) {
			return slow(rank, a.parts[k], b.parts[k])
		}
	}
	return false
}

func TestAboveIsThatOfTheSlowWay(t *testing.T) { // E2
	d := draw(5)
	all := ranks()
	var yes, no int
	for range 12000 {
		rank := all[d.below(len(all))]
		a, b := drawn(&d, 11, 2), drawn(&d, 11, 2)
		if d.below(2) == 0 {
			b, _ = term.Put(a, d.below(len(a)), drawn(&d, 3, 2))
		}
		one, _ := grow(a)
		other, _ := grow(b)
		want := slow(rank, one, other)
		if is, e := Above(rank, a, b); is != want || e != api.OK {
			t.Fatalf("Above(%v, %v, %v): %v %d, want %v", rank, a, b, is, e, want)
		}
		if want {
			yes++
		} else {
			no++
		}
	}
	if yes < 2000 || no < 2000 {
		t.Errorf("%d are above, %d are not", yes, no)
	}
}

func TestNothingIsAboveItself(t *testing.T) { // E2
	d := draw(11)
	for range 2000 {
		a, b := drawn(&d, 12, 3), drawn(&d, 12, 3)
		if is, e := Above(mixed, a, a); is || e != api.OK {
			t.Fatalf("Above(%v, %v): %v %d", a, a, is, e)
		}
		one, _ := Above(mixed, a, b)
		other, _ := Above(mixed, b, a)
		if one && other {
			t.Fatalf("%v and %v are above each other", a, b)
		}
	}
	for _, whole := range []api.Term{{0}, {-1}, tower(api.MaxSize, -1), tower(api.MaxSize, 1), bush(15, -2)} {
		if is, e := Above(rising, whole, whole); is || e != api.OK {
			t.Fatalf("Above(%v, %v): %v %d", whole, whole, is, e)
		}
	}
}

func TestAllPartsAreBelow(t *testing.T) { // E2
	d := draw(13)
	for range 1000 {
		a := drawn(&d, api.MaxSize, 3)
		for k := 1; k < len(a); k++ {
			part, _ := term.Part(a, k)
			if is, e := Above(mixed, a, part); !is || e != api.OK {
				t.Fatalf("Above(%v, %v): %v %d", a, part, is, e)
			}
			if is, e := Above(mixed, part, a); is || e != api.OK {
				t.Fatalf("Above(%v, %v): %v %d", part, a, is, e)
			}
		}
	}
}

func TestWithoutVariablesOneIsAbove(t *testing.T) { // E2
	d := draw(19)
	for range 3000 {
		a, b := drawn(&d, 10, 0), drawn(&d, 10, 0)
		one, _ := Above(falling, a, b)
		other, _ := Above(falling, b, a)
		if slices.Equal(a, b) == (one || other) {
			t.Fatalf("%v and %v: %v %v", a, b, one, other)
		}
	}
}

func TestWhoIsAboveStaysAbove(t *testing.T) { // E2
	d := draw(29)
	all := ranks()
	moved := 0
	for range 20000 {
		rank := all[d.below(len(all))]
		a, b := drawn(&d, 7, 2), drawn(&d, 7, 2)
		if is, _ := Above(rank, a, b); !is {
			continue
		}
		s := sub.None()
		s[0], s[1] = drawn(&d, 3, 3), drawn(&d, 3, 3)
		around := drawn(&d, 7, 2)
		at := d.below(len(around))
		ofA, e := sub.Apply(s, a)
		ofB, u := sub.Apply(s, b)
		inA, v := term.Put(around, at, ofA)
		inB, w := term.Put(around, at, ofB)
		if e != api.OK || u != api.OK || v != api.OK || w != api.OK {
			continue
		}
		moved++
		if is, e := Above(rank, ofA, ofB); !is || e != api.OK {
			t.Fatalf("%v is above %v, but by %v: %v %d", a, b, s, is, e)
		}
		if is, e := Above(rank, inA, inB); !is || e != api.OK {
			t.Fatalf("%v is above %v, but in %v at %d: %v %d", ofA, ofB, around, at, is, e)
		}
	}
	if moved < 2000 {
		t.Errorf("only %d were above", moved)
	}
}

func TestAboveIsHandedOn(t *testing.T) { // E2
	d := draw(31)
	chains := 0
	for range 20000 {
		a, b, c := drawn(&d, 8, 1), drawn(&d, 6, 1), drawn(&d, 5, 1)
		one, _ := Above(mixed, a, b)
		other, _ := Above(mixed, b, c)
		if !one || !other {
			continue
		}
		chains++
		if is, e := Above(mixed, a, c); !is || e != api.OK {
			t.Fatalf("%v is above %v, and that above %v: %v %d", a, b, c, is, e)
		}
	}
	if chains < 500 {
		t.Errorf("only %d chains", chains)
	}
}

// Whoever asks each question anew is not done with these for years.
func TestLargeIsFoundSoon(t *testing.T) { // E2, P1
	for _, c := range []struct {
		a, b api.Term
		want bool
	}{
		{bush(15, -1), bush(15, -2), false},
		{bush(15, -1), bush(14, -1), true},
		{bush(14, -1), bush(15, -1), false},
		{bush(15, 0), bush(15, 1), false},
		{bush(15, 1), bush(15, 0), true},
		{append(slices.Repeat(api.Term{4, -1}, 14), -2), append(slices.Repeat(api.Term{4, -1}, 14), -3), false},
		{append(slices.Repeat(api.Term{4, 0}, 14), 1), append(slices.Repeat(api.Term{4, 0}, 14), 0), true},
		{append(slices.Repeat(api.Term{4}, 14), slices.Repeat(api.Term{-1}, 15)...), append(slices.Repeat(api.Term{4, -1}, 14), -1), true},
		{append(slices.Repeat(api.Term{4, -1}, 14), -1), append(slices.Repeat(api.Term{4}, 14), slices.Repeat(api.Term{-1}, 15)...), false},
		{tower(api.MaxSize, -1), tower(api.MaxSize, -2), false},
		{tower(api.MaxSize, -1), tower(api.MaxSize-1, -2), false},
		{tower(api.MaxSize, -1), tower(api.MaxSize-1, -1), true},
		{tower(api.MaxSize-1, -1), tower(api.MaxSize, -1), false},
		{tower(api.MaxSize, 1), tower(api.MaxSize, 0), true},
	} {
		if is, e := Above(rising, c.a, c.b); is != c.want || e != api.OK {
			t.Errorf("Above(%v, %v): %v %d, want %v", c.a, c.b, is, e, c.want)
		}
	}
}

// roomy: the list with spare room behind it, in which each number is 77.
func roomy(l []int) []int {
	return append(slices.Clone(l), slices.Repeat([]int{77}, 40)...)[:len(l)]
}

func TestOnlyRead(t *testing.T) { // P2
	rank, a, b := roomy(mixed), roomy([]int{4, 4, -1, -2, -3}), roomy([]int{4, -1, 4, -2, -3})
	all := [][]int{rank[:cap(rank)], a[:cap(a)], b[:cap(b)]}
	var was [][]int
	for _, l := range all {
		was = append(was, slices.Clone(l))
	}
	if is, e := Above(rank, a, b); !is || e != api.OK || Check(rank) != api.OK {
		t.Fatalf("%v %d", is, e)
	}
	if !reflect.DeepEqual(all, was) {
		t.Errorf("changed: %v, was %v", all, was)
	}
}

func TestSameAgain(t *testing.T) { // P3
	rank, a, b := slices.Clone(rising), api.Term{3, -1}, api.Term{2, -1}
	for range 20 {
		if is, e := Above(rank, a, b); !is || e != api.OK {
			t.Fatalf("rising: %v %d", is, e)
		}
		slices.Reverse(rank)
		if is, e := Above(rank, a, b); is || e != api.OK {
			t.Fatalf("falling: %v %d", is, e)
		}
		slices.Reverse(rank)
		a[1] = -2
		if is, e := Above(rank, a, b); is || e != api.OK {
			t.Fatalf("another term: %v %d", is, e)
		}
		a[1] = -1
		Above(nil, a, b)
		Above(rank, nil, b)
	}
}
