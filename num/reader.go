package num

import (
	"valise/api"
)

// Reader reads from a copy of the bytes that it was made of. One that is zero has none to read.
type Reader struct {
	bytes []byte
	at    int
	fault api.Errno
}

// New is a reader at the first byte of b.
func New(b []byte) *Reader {
	return &Reader{bytes: append([]byte(nil), b...)}
}

// stuck tells whether nothing more is read: after a fault what comes next has no meaning.
func (r *Reader) stuck() bool {
	return r.Err() != api.OK
}

// take is the next n bytes, the reader's own, behind which it stands then; none, if there is a fault.
func (r *Reader) take(n int) []byte {
	if r.stuck() {
		return nil
	}
	if n > r.Left() {
		r.fault = api.ErrShort
		return nil
	}
	b := r.bytes[r.at : r.at+n]
	r.at += n
	return b
}

// sevens is the number by sevens at the beginning of b, and how many bytes it has.
func sevens(b []byte) (v uint64, n int, fault api.Errno) {
	for i, c := range b[:min(len(b), mostSevens)] {
		if i == mostSevens-1 && c > 1 { // above 64 bits, or without an end
			return 0, 0, api.ErrForm
		}
		if c == 0 && i > 0 { // the number has a shorter form
			return 0, 0, api.ErrForm
		}
		v |= uint64(c&0x7f) << (7 * i)
		if c < 0x80 {
			return v, i + 1, api.OK
		}
	}
	return 0, 0, api.ErrShort
}

// Num is the next number by sevens.
func (r *Reader) Num() uint64 {
	if r.stuck() {
		return 0
	}
	v, n, fault := sevens(r.bytes[r.at:])
	r.at += n
	r.fault = fault
	return v
}

// Zig is the number of which the next Num is the Fold.
func (r *Reader) Zig() int64 {
	return Unfold(r.Num())
}

// Text is as many bytes as the next Num tells, at most most.
func (r *Reader) Text(most int) []byte {
	t := r.trial()
	defer t.settle()
	n := t.Num()
	if n > uint64(max(most, 0)) { // asked ahead of how many are left, and while n may be past an int
		t.fault = api.ErrForm
		return nil
	}
	return t.Raw(int(n))
}

// Little is the number that the next n bytes are, the lowest first.
func (r *Reader) Little(n int) uint64 {
	v := uint64(0)
	for i, c := range r.take(width(n)) {
		v |= uint64(c) << (8 * i)
	}
	return v
}

// Big is the number that the next n bytes are, the highest first.
func (r *Reader) Big(n int) uint64 {
	v := uint64(0)
	for _, c := range r.take(width(n)) {
		v = v<<8 | uint64(c)
	}
	return v
}

// Raw is the next n bytes: a copy.
func (r *Reader) Raw(n int) []byte {
	return append([]byte(nil), r.take(max(n, 0))...)
}

// Left is how many bytes are behind the reader's place.
func (r *Reader) Left() int {
	if r == nil {
		return 0
	}
	return len(r.bytes) - r.at
}

// Err is the first fault.
func (r *Reader) Err() api.Errno {
	if r == nil {
		return api.ErrNil
	}
	return r.fault
}

// End is the first fault, or ErrForm, if bytes are left.
func (r *Reader) End() api.Errno {
	if r.stuck() {
		return r.Err()
	}
	if r.Left() > 0 {
		return api.ErrForm
	}
	return api.OK
}
