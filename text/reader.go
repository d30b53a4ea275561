package text

import (
	"strings"

	"hasp/api"
	"hasp/signs"
)

// reader: what is left of a text, and the signs that were read of it.
type reader struct {
	rest string
	out  api.Term
}

// read: the term that the whole text shows.
func read(s string) (out api.Term, e api.Errno) {
	defer func() {
		if left := recover(); left != nil {
			out, e = nil, left.(api.Errno)
		}
	}()
	r := &reader{rest: s}
	r.term()
	if r.rest != "" {
		panic(api.ErrForm)
	}
	return r.out, api.OK
}

// term reads one term. What has more signs than a term may have is none: so no text leads deeper than that.
func (r *reader) term() {
	if len(r.out) == api.MaxSize {
		panic(api.ErrForm)
	}
	sign := signOf(r.next())
	r.out = append(r.out, sign)
	room := signs.Room(sign)
	if room == 0 {
		return
	}
	r.mark('(')
	r.term()
	for range room - 1 {
		r.mark(',')
		r.term()
	}
	r.mark(')')
}

// mark reads the byte that must stand there.
func (r *reader) mark(want byte) {
	if r.next() != want {
		panic(api.ErrForm)
	}
}

// next byte, which is taken away.
func (r *reader) next() byte {
	if r.rest == "" {
		panic(api.ErrForm)
	}
	b := r.rest[0]
	r.rest = r.rest[1:]
	return b
}

// signOf a letter.
func signOf(letter byte) int {
	if k := strings.IndexByte(symbols, letter); k >= 0 {
		return k
	}
	if k := strings.IndexByte(variables, letter); k >= 0 {
		return -1 - k
	}
	panic(api.ErrForm)
}
