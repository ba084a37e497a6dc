package bits

import (
	"valise/api"
)

// Reader reads bits from a copy of what it was made of. One that is zero has none to read.
//
// The methods of place, promoted, do the looking; they can't be had from a nil reader, so each call of the reader's own asks for that first.
type Reader struct {
	place
}

// New is a reader at the first bit of b.
func New(b []byte) *Reader {
	return &Reader{place{bytes: append([]byte(nil), b...)}}
}

// stuck tells whether nothing more is read: after a fault what comes next has no meaning.
func (r *Reader) stuck() bool {
	return r.Err() != api.OK
}

// Bit is the next bit.
func (r *Reader) Bit() int {
	return int(r.Bits(1))
}

// Bits is the number that the next n bits are.
func (r *Reader) Bits(n int) uint32 {
	if r.stuck() {
		return 0
	}
	n = within(n, mostBits)
	if n > r.left() {
		r.fault = api.ErrShort
		return 0
	}
	v := r.number(n)
	r.at += n
	return v
}

// Unary is how many ones stand ahead of the next 0, which it goes behind; or most, if so many come first.
func (r *Reader) Unary(most int) int {
	if r.stuck() {
		return 0
	}
	most = max(most, 0)
	n := r.ones(most)
	switch {
	case n == most: // asked first: most ones at the very end are no fault
		r.at += n
	case n == r.left():
		r.fault = api.ErrShort
		return 0
	default:
		r.at += n + 1
	}
	return n
}

// Left is how many bits are behind the reader's place.
func (r *Reader) Left() int {
	if r == nil {
		return 0
	}
	return r.left()
}

// Err is the first fault.
func (r *Reader) Err() api.Errno {
	if r == nil {
		return api.ErrNil
	}
	return r.fault
}

// End is the first fault, or ErrForm, if more is left than the zeros that fill the last byte.
func (r *Reader) End() api.Errno {
	if r.stuck() {
		return r.Err()
	}
	if !r.padded() {
		return api.ErrForm
	}
	return api.OK
}
