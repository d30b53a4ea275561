// Package signs: what the layers share in going through the signs of terms. Its calls trust what they are handed: the layers ask term.Check first.
package signs

import (
	"iter"

	"hasp/api"
)

// Known: is the sign a symbol or a variable?
func Known(sign int) bool { return -api.Vars <= sign && sign < api.Syms }

// Room: how many parts stand behind the sign.
func Room(sign int) int {
	switch sign {
	case 2, 3:
		return 1
	case 4, 5:
		return 2
	}
	return 0
}

// Places goes through all places of t: each one, and where the next term behind the one that begins there would begin.
func Places(t api.Term) iter.Seq2[int, int] {
	return func(yield func(begin, end int) bool) {
		for k := range t {
			if !yield(k, End(t, k)) {
				return
			}
		}
	}
}

// Parts goes through the parts of the term that begins at place k of t: where each begins, and where the next one behind it would.
func Parts(t api.Term, k int) iter.Seq2[int, int] {
	return func(yield func(begin, end int) bool) {
		begin := k + 1
		for range Room(t[k]) {
			end := End(t, begin)
			if !yield(begin, end) {
				return
			}
			begin = end
		}
	}
}

// End: where the next one behind the term that begins at place k of t would begin. A sign that is missing counts as one without parts, so that a list that is too short ends beyond itself.
func End(t api.Term, k int) int {
	end := k + 1
	if k >= len(t) {
		return end
	}
	for _, behind := range Parts(t, k) {
		end = behind
	}
	return end
}
