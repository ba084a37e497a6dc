package rice

import (
	"bytes"
	"fmt"
	"strconv"
	"strings"
)

// luck is a row of numbers that look like chance, and are the same each time.
type luck uint64

func (l *luck) below(n int) int {
	*l = *l*6364136223846793005 + 1442695040888963407
	return int(uint64(*l)>>33) % n
}

// kinds is how many there are of numbers that luck tells.
const kinds = 6

// numbers are n of a kind: all zero, near zero, of any one width, of all widths, those at the edges of a parameter, or small ones with a few great ones among them.
func (l *luck) numbers(n, kind int) []int32 {
	out := make([]int32, n)
	width := l.below(33)
	for i := range out {
		switch kind {
		case 0:
		case 1:
			out[i] = int32(l.below(9) - 4)
		case 2:
			out[i] = l.wide(width)
		case 3:
			out[i] = l.wide(l.below(33))
		case 4:
			out[i] = edges()[l.below(len(edges()))]
		default:
			out[i] = l.wide(4)
			if l.below(12) == 0 {
				out[i] = l.wide(32)
			}
		}
	}
	return out
}

// wide is a number that has at most so many bits, folded.
func (l *luck) wide(width int) int32 {
	return plainUnfold(uint64(l.below(1<<16)<<16|l.below(1<<16)) & (1<<width - 1))
}

// edges are numbers at which something begins or ends: the last and the first of a power of two, the last that has 23 ones and the first that is written whole, for each parameter; and the ends of all.
func edges() []int32 {
	all := []int32{0, -1, 1, -1 << 31, 1<<31 - 1, -1<<31 + 1}
	for k := range 25 {
		for _, first := range []uint64{1 << k, 23 << k, 24 << k} {
			all = append(all, plainUnfold(first-1), plainUnfold(first), plainUnfold(first+1))
		}
	}
	return all
}

// spoilt is x, turned somewhere: a bit, the end, a byte more or less, or two that change their places.
func (l *luck) spoilt(x []byte) []byte {
	z := bytes.Clone(x)
	if len(z) == 0 {
		return []byte{byte(l.below(256))}
	}
	i, j := l.below(len(z)), l.below(len(z))
	switch l.below(6) {
	case 0:
		z[i] ^= 1 << l.below(8)
	case 1:
		z[len(z)-1] ^= byte(1 << l.below(3))
	case 2:
		return append(z, byte(l.below(2)*l.below(256)))
	case 3:
		return z[:i]
	case 4:
		z[i], z[j] = z[j], z[i]
	default:
		return append(z[:i], z[i+1:]...)
	}
	return z
}

func plainFold(v int32) uint64 {
	if v < 0 {
		return uint64(-2*int64(v) - 1)
	}
	return uint64(2 * int64(v))
}

func plainUnfold(u uint64) int32 {
	if u%2 == 1 {
		return int32(-(int64(u) + 1) / 2)
	}
	return int32(u / 2)
}

// spell is a number in bits, as the chapter's words say it, written as a text of noughts and ones.
func spell(v int32, k int) string {
	u := plainFold(v)
	q := u / (1 << k)
	if q >= 24 {
		return strings.Repeat("1", 24) + fmt.Sprintf("%032b", u)
	}
	s := strings.Repeat("1", int(q)) + "0"
	for unit := uint64(1) << k / 2; unit > 0; unit /= 2 {
		s += strconv.Itoa(int(u / unit % 2))
	}
	return s
}

// spellAll is all of them, one behind the other.
func spellAll(l []int32, k int) string {
	var s strings.Builder
	for _, v := range l {
		s.WriteString(spell(v, k))
	}
	return s.String()
}

// bestByWords is the least parameter with which that is the shortest, and that text.
func bestByWords(l []int32) (best int, text string) {
	for k := 24; k >= 0; k-- {
		if s := spellAll(l, k); k == 24 || len(s) <= len(text) {
			best, text = k, s
		}
	}
	return best, text
}

// filled is the bytes that such a text is, the last one filled with zeros.
func filled(s string) []byte {
	b := make([]byte, (len(s)+7)/8)
	for i, d := range s {
		b[i/8] += byte(d-'0') << (7 - i%8)
	}
	return b
}

// packByWords is Pack as the chapter says it.
func packByWords(l []int32) []byte {
	var s strings.Builder
	for len(l) > 0 {
		n := min(64, len(l))
		k, text := bestByWords(l[:n])
		fmt.Fprintf(&s, "%05b%s", k, text)
		l = l[n:]
	}
	return filled(s.String())
}

// unpackByWords is Unpack as the chapter says it: there is but one row of numbers to try, since no number's bits are the beginning of another one's with the same parameter.
func unpackByWords(x []byte, n int) ([]int32, bool) {
	var all strings.Builder
	for _, b := range x {
		fmt.Fprintf(&all, "%08b", b)
	}
	s, k := all.String(), 0
	cut := func(n int) (v uint64, ok bool) {
		if n > len(s) {
			return 0, false
		}
		for _, d := range s[:n] {
			v = 2*v + uint64(d-'0')
		}
		s = s[n:]
		return v, true
	}
	var l []int32
	for i := range n {
		if i%64 == 0 {
			told, ok := cut(5)
			if !ok || told > 24 {
				return nil, false
			}
			k = int(told)
		}
		var u uint64
		var ok bool
		if ones := strings.Repeat("1", 24); strings.HasPrefix(s, ones) {
			s = s[len(ones):]
			u, ok = cut(32)
		} else {
			rest := strings.TrimLeft(s, "1")
			q := len(s) - len(rest)
			s = strings.TrimPrefix(rest, "0")
			low, there := cut(k)
			u, ok = uint64(q)<<k+low, rest != "" && there
		}
		if !ok {
			return nil, false
		}
		l = append(l, plainUnfold(u))
	}
	return l, bytes.Equal(packByWords(l), x)
}
