package stream

import (
	"bytes"

	"valise/coder"
	"valise/model"
)

// luck is a row of numbers that look like chance, and are the same each time.
type luck uint64

func (l *luck) below(n int) int {
	*l = *l*6364136223846793005 + 1442695040888963407
	return int(uint64(*l)>>33) % n
}

// kinds is how many there are of bytes that luck tells.
const kinds = 5

// bytes are n of a kind: any, all ones, mostly zeros, those of words that come again, or odd ones in runs.
func (l *luck) bytes(n, kind int) []byte {
	var b []byte
	for len(b) < n {
		switch kind {
		case 0:
			b = append(b, byte(l.below(256)))
		case 1:
			b = append(b, 255)
		case 2:
			b = append(b, byte(l.below(256))&byte(-(l.below(20)/19)))
		case 3:
			b = append(b, []string{"the ", "then ", "other ", "oh, "}[l.below(4)]...)
		default:
			b = append(b, bytes.Repeat([]byte{[]byte{0, 1, 127, 128, 254, 255}[l.below(6)]}, 1+l.below(9))...)
		}
	}
	return b[:n]
}

// spoilt is x, turned somewhere: a bit, the end, a byte more or less, or two that change their places.
func (l *luck) spoilt(x []byte) []byte {
	z := bytes.Clone(x)
	if len(z) == 0 {
		return []byte{byte(l.below(256))}
	}
	i, j := l.below(len(z)), l.below(len(z))
	switch l.below(6) {
	case 0:
		z[i] ^= 1 << l.below(8)
	case 1:
		z[len(z)-1] += byte(1 + 254*l.below(2))
	case 2:
		return append(z, byte(l.below(2)*l.below(256)))
	case 3:
		return z[:i]
	case 4:
		z[i], z[j] = z[j], z[i]
	default:
		return append(z[:i], z[i+1:]...)
	}
	return z
}

// packByWords is Pack as the chapter says it: all bits of b first, and then each encoded.
func packByWords(b []byte, level int) []byte {
	var bits []int
	for _, v := range b {
		for unit := 128; unit > 0; unit /= 2 {
			bits = append(bits, int(v)/unit%2)
		}
	}
	e, m := coder.NewEncoder(), model.New(level)
	for _, bit := range bits {
		e.Encode(bit, m.Chance())
		m.Learn(bit)
	}
	return e.Flush()
}

// unpackByWords is Unpack as the chapter says it: there is but one row of bytes to try, since each bit is what the decoder tells.
func unpackByWords(x []byte, n, level int) ([]byte, bool) {
	d, m := coder.NewDecoder(x), model.New(level)
	var b []byte
	for range n {
		sum := 0
		for unit := 128; unit > 0; unit /= 2 {
			bit := d.Decode(m.Chance())
			m.Learn(bit)
			sum += bit * unit
		}
		b = append(b, byte(sum))
	}
	return b, bytes.Equal(packByWords(b, level), x)
}
