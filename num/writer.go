package num

// Writer gathers bytes. One that is zero has none. It is not to be copied once it has some.
type Writer struct {
	bytes []byte
}

// Raw writes all parts, one behind the other. All writing goes through it, so that a nil writer is met here alone.
func (w *Writer) Raw(parts ...[]byte) {
	if w == nil {
		return
	}
	for _, p := range parts {
		w.bytes = append(w.bytes, p...)
	}
}

// Num writes v by sevens: seven bits a byte, the lowest first, each byte but the last with its highest bit set.
func (w *Writer) Num(v uint64) {
	var b [mostSevens]byte
	last := 0
	for ; v >= 0x80; v >>= 7 {
		b[last] = byte(v&0x7f) | 0x80
		last++
	}
	b[last] = byte(v)
	w.Raw(b[:last+1])
}

// Zig writes the Fold of v as a Num.
func (w *Writer) Zig(v int64) {
	w.Num(Fold(v))
}

// Text writes the length of b as a Num, and b.
func (w *Writer) Text(b []byte) {
	w.Num(uint64(len(b)))
	w.Raw(b)
}

// Little writes the n lowest bytes of v, the lowest first.
func (w *Writer) Little(v uint64, n int) {
	var b [mostWidth]byte
	n = width(n)
	for i := range n {
		b[i] = byte(v >> (8 * i) & 0xff)
	}
	w.Raw(b[:n])
}

// Big writes the n lowest bytes of v, the highest of them first.
func (w *Writer) Big(v uint64, n int) {
	var b [mostWidth]byte
	n = width(n)
	for i := range n {
		b[n-1-i] = byte(v >> (8 * i) & 0xff)
	}
	w.Raw(b[:n])
}

// Bytes is what was written: a copy, since the writer may go on.
func (w *Writer) Bytes() []byte {
	if w == nil {
		return nil
	}
	return append([]byte(nil), w.bytes...)
}
