package order

import (
	"slices"

	"hasp/api"
	"hasp/signs"
)

// sides: two terms, and what was found of their places. Whatever is asked leads to the same places again and again: without what was found, each sign more could double the work.
type sides struct {
	rank  []int
	a, b  api.Term
	found map[places]finding
}

// places: one of a, and one of b.
type places struct{ a, b int }

// finding: what was found of two places.
type finding struct{ above bool }

// above: is the term of a above that of b?
func (s *sides) above(at places) bool {
	was, ok := s.found[at]
	if !ok {
		was.above = s.byPart(at) || s.bySymbol(at)
		s.found[at] = was
	}
	return was.above
}

// byPart: is a part of the term of a that of b, or above it?
func (s *sides) byPart(at places) bool {
	for part := range signs.Parts(s.a, at.a) {
		below := places{a: part, b: at.b}
		if s.same(below) || s.above(below) {
			return true
		}
	}
	return false
}

// bySymbol: is the term of a above all parts of that of b, and above it by its symbol, or by its parts?
func (s *sides) bySymbol(at places) bool {
	f, g := s.a[at.a], s.b[at.b]
	if f < 0 || g < 0 {
		return false
	}
	for part := range signs.Parts(s.b, at.b) {
		if !s.above(places{a: at.a, b: part}) {
			return false
		}
	}
	if f == g {
		return s.byFirstThatDiffers(at)
	}
	return s.rank[f] > s.rank[g]
}

// byFirstThatDiffers: of two terms with the same symbol, are the first parts that differ so that that of a is above?
func (s *sides) byFirstThatDiffers(at places) bool {
	against := at.b + 1
	for part := range signs.Parts(s.a, at.a) {
		two := places{a: part, b: against}
		if !s.same(two) {
			return s.above(two)
		}
		against = signs.End(s.b, against)
	}
	return false
}

// same: is the term of a that of b?
func (s *sides) same(at places) bool {
	return slices.Equal(s.a[at.a:signs.End(s.a, at.a)], s.b[at.b:signs.End(s.b, at.b)])
}
