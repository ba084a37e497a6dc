package bits

import (
	"valise/api"
)

// place is where a reader stands among its bits, and the first fault that it met there.
type place struct {
	bytes []byte
	at    int
	fault api.Errno
}

// left is how many bits are behind the place.
func (p *place) left() int {
	return 8*len(p.bytes) - p.at
}

// ahead is the bit that comes after i others; there must be one.
func (p *place) ahead(i int) int {
	i += p.at
	return int(p.bytes[i/8] >> (7 - i%8) & 1)
}

// ones is how many ones stand next, counted up to most.
func (p *place) ones(most int) int {
	most = min(most, p.left())
	for i := range most {
		if p.ahead(i) == 0 {
			return i
		}
	}
	return most
}

// number is what the next n bits are, the highest first; there must be so many.
func (p *place) number(n int) uint32 {
	v := uint32(0)
	for i := range n {
		v = v<<1 | uint32(p.ahead(i))
	}
	return v
}

// padded tells whether no more is left than what fills up a byte with zeros.
func (p *place) padded() bool {
	return p.left() < 8 && p.number(p.left()) == 0
}
