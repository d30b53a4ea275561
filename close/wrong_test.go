package close

import (
	"slices"
	"testing"

	"hasp/api"
)

// wrongRanks, wrongRules and wrongPairs: things with a fault, and what is told of it.
var wrongRanks = []struct {
	rank []int
	want api.Errno
}{
	{nil, api.ErrForm},
	{[]int{0, 1, 2, 3, 4}, api.ErrForm},
	{[]int{0, 1, 2, 3, 4, 5, 6}, api.ErrForm},
	{[]int{0, 1, 2, 3, 4, 4}, api.ErrRange},
	{[]int{1, 2, 3, 4, 5, 6}, api.ErrRange},
}

var wrongRules = []struct {
	l    []api.Rule
	want api.Errno
}{
	{make([]api.Rule, api.MaxRules+1), api.ErrMany},
	{make([]api.Rule, 5000), api.ErrMany},
	{append(ground(), ground()[0]), api.ErrMany},
	{[]api.Rule{{}}, api.ErrForm},
	{[]api.Rule{rule(api.Term{-1}, api.Term{0})}, api.ErrForm},
	{[]api.Rule{rule(api.Term{7}, api.Term{0})}, api.ErrRange},
	{[]api.Rule{rule(api.Term{2, -5}, api.Term{-5})}, api.ErrRange},
	{[]api.Rule{rule(api.Term{2, -1}, api.Term{-2})}, api.ErrFree},
	{[]api.Rule{rule(api.Term{0}, api.Term{1}), rule(api.Term{2, -1}, api.Term{-2})}, api.ErrFree},
	// fine as rules, but they do not fall
	{[]api.Rule{rule(api.Term{0}, api.Term{1})}, api.ErrOrder},
	{[]api.Rule{rule(api.Term{2, -1}, api.Term{3, -1})}, api.ErrOrder},
	{append(ground()[1:], rule(api.Term{4, -1, -2}, api.Term{4, -2, -1})), api.ErrOrder},
}

var wrongPairs = []struct {
	e    []api.Pair
	want api.Errno
}{
	{make([]api.Pair, api.MaxEqs+1), api.ErrMany},
	{make([]api.Pair, 5000), api.ErrMany},
	{append(still(api.MaxEqs), pair(api.Term{9}, nil)), api.ErrMany},
	{[]api.Pair{{}}, api.ErrForm},
	{[]api.Pair{pair(api.Term{0}, nil)}, api.ErrForm},
	{[]api.Pair{pair(api.Term{4, 0}, api.Term{0})}, api.ErrForm},
	{[]api.Pair{pair(api.Term{0}, api.Term{9})}, api.ErrRange},
	{[]api.Pair{pair(api.Term{-9}, api.Term{0})}, api.ErrRange},
	{[]api.Pair{pair(tower(api.MaxSize+1, 0), api.Term{0})}, api.ErrMany},
	// L ahead of R, and pair by pair
	{[]api.Pair{pair(api.Term{9}, nil)}, api.ErrRange},
	{[]api.Pair{pair(nil, api.Term{9})}, api.ErrForm},
	{[]api.Pair{pair(api.Term{0}, nil), pair(api.Term{9}, api.Term{0})}, api.ErrForm},
	{[]api.Pair{pair(api.Term{0}, api.Term{9}), {}}, api.ErrRange},
	{append(still(api.MaxEqs-1), pair(api.Term{0}, api.Term{9})), api.ErrRange},
	// ahead of what the first pair comes to
	{[]api.Pair{swap(), pair(api.Term{0}, api.Term{9})}, api.ErrRange},
	{[]api.Pair{swap(), {}}, api.ErrForm},
}

// notRun: Run tells that error, and nothing else.
func notRun(t *testing.T, want api.Errno, rank []int, e []api.Pair) {
	t.Helper()
	if m, n, err := Run(rank, e); len(m) != 0 || n != 0 || err != want {
		t.Errorf("Run(%v, %v): %v %d %d, want %d", rank, e, m, n, err, want)
	}
}

func TestErrors(t *testing.T) { // J1, J2, P1
	for _, w := range wrongRanks {
		for _, e := range [][]api.Pair{nil, still(1), group(), {swap()}} {
			refused(t, w.want, w.rank, nil, e)
			notRun(t, w.want, w.rank, e)
		}
	}
	for _, w := range wrongRules {
		for _, e := range [][]api.Pair{still(1), group(), {swap()}} {
			refused(t, w.want, rising, w.l, e)
		}
	}
	for _, w := range wrongPairs {
		refused(t, w.want, rising, nil, w.e)
		refused(t, w.want, rising, ground(), w.e)
		notRun(t, w.want, rising, w.e)
	}
	for _, e := range [][]api.Pair{nil, {}} {
		refused(t, api.ErrNone, rising, nil, e)
		refused(t, api.ErrNone, falling, nil, e)
		refused(t, api.ErrNone, rising, ground(), e)
	}
}

func TestWhichErrorIsToldFirst(t *testing.T) { // J1, J2, P1
	for _, w := range wrongRanks {
		for _, x := range wrongRules {
			refused(t, w.want, w.rank, x.l, still(1))
			refused(t, w.want, w.rank, x.l, nil)
			for _, y := range wrongPairs {
				refused(t, w.want, w.rank, x.l, y.e)
			}
		}
		for _, y := range wrongPairs {
			refused(t, w.want, w.rank, nil, y.e)
			notRun(t, w.want, w.rank, y.e)
		}
	}
	// What is told of pairs goes ahead of what is told of rules, and that ahead of there being no pairs.
	for _, rank := range [][]int{rising, {4, 3, 2, 0, 1, 5}} {
		for _, x := range wrongRules {
			for _, y := range wrongPairs {
				refused(t, y.want, rank, x.l, y.e)
			}
		}
	}
	for _, x := range wrongRules {
		refused(t, x.want, rising, x.l, nil)
		refused(t, x.want, rising, x.l, []api.Pair{})
	}
	// A rule that does not fall stands ahead of one with a fault: the fault is told.
	up := rule(api.Term{0}, api.Term{1})
	refused(t, api.ErrFree, rising, []api.Rule{up, rule(api.Term{0}, api.Term{-1})}, still(1))
	refused(t, api.ErrMany, rising, slices.Repeat([]api.Rule{up}, api.MaxRules+1), still(1))
}
