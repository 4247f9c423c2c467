// Package ring is layer 1: a ring buffer of bytes. See shared/doc/01-ring.md.
package ring

import (
	"iter"
	"slices"
	"strings"

	"lockage/api"
)

// New returns an empty ring with that capacity, or the zero ring if there is none with it.
func New(room int) api.Ring {
	if room < 1 || room > api.MaxRing {
		return api.Ring{}
	}
	return api.Ring{Buf: make([]byte, room)}
}

// Right reports whether r is valid.
func Right(r api.Ring) bool {
	room := len(r.Buf)
	return room >= 1 && room <= api.MaxRing &&
		r.From >= 0 && r.From < room &&
		r.Many >= 0 && r.Many <= room
}

// Data returns the content of r.
func Data(r api.Ring) string {
	if !Right(r) {
		return ""
	}
	return first(r, r.Many)
}

// Push appends as many bytes of s as fit, and tells how many these are.
func Push(r api.Ring, s string) (api.Ring, int) {
	r = own(r)
	if !Right(r) {
		return r, 0
	}
	pushed := 0
	for part := range parts(r.Buf, place(r, r.Many), len(r.Buf)-r.Many) {
		pushed += copy(part, s[pushed:])
	}
	r.Many += pushed
	return r, pushed
}

// Pop removes the first n bytes of the content, or all if there are fewer, and returns them.
func Pop(r api.Ring, n int) (api.Ring, string) {
	r = own(r)
	if !Right(r) || n < 0 {
		return r, ""
	}
	n = min(n, r.Many)
	popped := first(r, n)
	r.From = place(r, n)
	r.Many -= n
	return r, popped
}

// Find returns the smallest index in the content of r at which s occurs, or -1.
func Find(r api.Ring, s string) int {
	// A ring that is not valid has the content "", in which the empty s occurs all the same.
	return strings.Index(Data(r), s)
}

// own returns r with a buffer of its own: results share no memory with arguments, not even those of rings that are not valid.
func own(r api.Ring) api.Ring {
	r.Buf = slices.Clone(r.Buf)
	return r
}

// place returns where in the buffer of a valid ring the i-th byte from From on stands.
func place(r api.Ring, i int) int {
	return (r.From + i) % len(r.Buf)
}

// first returns the first n bytes of the content of a valid ring that has as many.
func first(r api.Ring, n int) string {
	out := make([]byte, n)
	done := 0
	for part := range parts(r.Buf, r.From, n) {
		done += copy(out[done:], part)
	}
	return string(out)
}

// parts goes over n bytes of buf from the index from on: the part that reaches at most to the end of buf, then the part that goes on at its beginning.
func parts(buf []byte, from, n int) iter.Seq[[]byte] {
	return func(yield func([]byte) bool) {
		ahead := min(n, len(buf)-from)
		if yield(buf[from : from+ahead]) {
			yield(buf[:n-ahead])
		}
	}
}
