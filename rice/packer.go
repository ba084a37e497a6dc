package rice

import (
	"valise/api"
	"valise/bits"
)

// packer writes numbers into the bits that are embedded. One that is zero has none.
type packer struct {
	bits.Writer
}

// block writes numbers that share a parameter, and that ahead of them.
func (p *packer) block(l []int32) {
	k := Best(l)
	p.Bits(uint32(k), paramBits)
	for _, v := range l {
		p.number(v, k)
	}
}

// number writes v with the parameter k.
func (p *packer) number(v int32, k int) {
	u := folded(v)
	if q := u >> k; q < api.Escape {
		p.Unary(int(q))
		p.Bits(u, k)
		return
	}
	p.Bits(1<<api.Escape-1, api.Escape) // ones without the 0 that Unary would write behind them
	p.Bits(u, wholeBits)
}

// unpacker reads what a packer writes.
type unpacker struct {
	*bits.Reader
}

// block reads as many numbers as l has, with the parameter ahead of them; false, if it can't.
func (u unpacker) block(l []int32) bool {
	k := int(u.Bits(paramBits))
	if k > mostLow {
		return false
	}
	for i := range l {
		l[i] = u.number(k)
	}
	return u.Err() == api.OK
}

// number reads one with the parameter k.
func (u unpacker) number(k int) int32 {
	q := u.Unary(api.Escape)
	if q == api.Escape {
		return unfolded(u.Bits(wholeBits))
	}
	return unfolded(uint32(q)<<k | u.Bits(k))
}
