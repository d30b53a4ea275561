package signs

import (
	"reflect"
	"slices"
	"testing"

	"hasp/api"
)

func TestKnown(t *testing.T) {
	for sign := -12; sign <= 12; sign++ {
		want := sign >= -8 && sign <= 5
		if got := Known(sign); got != want {
			t.Errorf("Known(%d) = %v", sign, got)
		}
	}
}

func TestRoom(t *testing.T) {
	want := map[int]int{-8: 0, -1: 0, 0: 0, 1: 0, 2: 1, 3: 1, 4: 2, 5: 2}
	for sign, n := range want {
		if got := Room(sign); got != n {
			t.Errorf("Room(%d) = %d, want %d", sign, got, n)
		}
	}
}

func TestParts(t *testing.T) {
	one := api.Term{5, 4, -1, 2, 0, 3, 1}
	want := map[int][][2]int{0: {{1, 5}, {5, 7}}, 1: {{2, 3}, {3, 5}}, 2: nil, 3: {{4, 5}}, 5: {{6, 7}}, 6: nil}
	for k, w := range want {
		var got [][2]int
		for begin, end := range Parts(one, k) {
			got = append(got, [2]int{begin, end})
		}
		if !reflect.DeepEqual(got, w) {
			t.Errorf("Parts at %d: %v, want %v", k, got, w)
		}
	}
}

func TestPlaces(t *testing.T) {
	one := api.Term{5, 4, -1, 2, 0, 3, 1}
	want := [][2]int{{0, 7}, {1, 5}, {2, 3}, {3, 5}, {4, 5}, {5, 7}, {6, 7}}
	var got [][2]int
	for begin, end := range Places(one) {
		got = append(got, [2]int{begin, end})
	}
	if !reflect.DeepEqual(got, want) {
		t.Errorf("Places: %v, want %v", got, want)
	}
}

func TestPlacesLeftEarly(t *testing.T) {
	n := 0
	for k := range Places(api.Term{4, 0, 1}) {
		n++
		if k == 1 {
			break
		}
	}
	if n != 2 {
		t.Errorf("%d places, want 2", n)
	}
}

func TestPartsLeftEarly(t *testing.T) {
	n := 0
	for range Parts(api.Term{4, 0, 1}, 0) {
		n++
		break
	}
	if n != 1 {
		t.Errorf("%d parts, want 1", n)
	}
}

func TestEndOfTooShort(t *testing.T) {
	for _, short := range []api.Term{nil, {2}, {4}, {4, 0}, {5, 2, 0, 3}} {
		if got := End(short, 0); got <= len(short) {
			t.Errorf("End(%v, 0) = %d: within the list", short, got)
		}
	}
}

func TestPlainOfSome(t *testing.T) {
	got := Plain(api.Term{4, -7, -2}, api.Term{5, -3, -7}, api.Term{0})
	want := []api.Term{{4, -1, -2}, {5, -3, -1}, {0}}
	if !reflect.DeepEqual(got, want) {
		t.Errorf("Plain: %v, want %v", got, want)
	}
	if got := Plain(); len(got) != 0 {
		t.Errorf("Plain of nothing: %v", got)
	}
}

func TestApart(t *testing.T) {
	r := api.Rule{L: api.Term{4, 5, -1, -2, 5, -3, -4}, R: api.Term{4, -4, 2, -1}}
	got := Apart(r)
	if !slices.Equal(got.L, api.Term{4, 5, -5, -6, 5, -7, -8}) || !slices.Equal(got.R, api.Term{4, -8, 2, -5}) {
		t.Errorf("Apart(%v): %v", r, got)
	}
	got.L[0], got.R[0] = 3, 3
	if r.L[0] != 4 || r.R[0] != 4 {
		t.Errorf("what was handed in is changed: %v", r)
	}
}
