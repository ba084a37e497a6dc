// Package bits is layer 1: bits, the highest of a byte first. See shared/doc/01-bits.md.
package bits

const (
	mostBits = 32   // of one number, written or read
	mostOnes = 4096 // that one call writes
)

// Writer gathers bits. One that is zero has none. It is not to be copied once it has some.
type Writer struct {
	bytes []byte
	count int
}

// within is the number from 0 to most that is nearest to n.
func within(n, most int) int {
	return min(max(n, 0), most)
}

// Bit writes a 0, if v is 0, else a 1. All writing goes through it, so that a nil writer is met here alone.
func (w *Writer) Bit(v int) {
	if w == nil {
		return
	}
	if w.count%8 == 0 {
		w.bytes = append(w.bytes, 0)
	}
	if v != 0 {
		w.bytes[w.count/8] |= 0x80 >> (w.count % 8)
	}
	w.count++
}

// Bits writes the n lowest bits of v, the highest of them first.
func (w *Writer) Bits(v uint32, n int) {
	for i := within(n, mostBits) - 1; i >= 0; i-- {
		w.Bit(int(v >> i & 1))
	}
}

// Unary writes n ones and a 0.
func (w *Writer) Unary(n int) {
	for range within(n, mostOnes) {
		w.Bit(1)
	}
	w.Bit(0)
}

// Len is how many bits were written.
func (w *Writer) Len() int {
	if w == nil {
		return 0
	}
	return w.count
}

// Bytes is what was written, the last byte filled with zeros: a copy, since the writer may go on.
func (w *Writer) Bytes() []byte {
	if w == nil {
		return nil
	}
	return append([]byte(nil), w.bytes...)
}
