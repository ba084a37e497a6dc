package stream

import (
	"valise/coder"
	"valise/model"
)

// highest is the place of a byte's highest bit, which comes first.
const highest = 7

// packer packs bits by what its model tells of them.
type packer struct {
	*coder.Encoder
	*model.Model
}

func newPacker(level int) packer {
	return packer{coder.NewEncoder(), model.New(level)}
}

// bit packs one bit.
func (p packer) bit(bit int) {
	p.Encode(bit, p.Chance())
	p.Learn(bit)
}

// put packs one byte.
func (p packer) put(v byte) {
	for k := highest; k >= 0; k-- {
		p.bit(int(v) >> k & 1)
	}
}

// unpacker takes out what was packed, and packs it again: so it can be told whether it was packed like that. The model of its packer is its own, too, since both are to learn the same bits.
type unpacker struct {
	*coder.Decoder
	packer
}

func newUnpacker(x []byte, level int) unpacker {
	return unpacker{coder.NewDecoder(x), newPacker(level)}
}

// take takes out one byte.
func (u unpacker) take() byte {
	v := 0
	for range highest + 1 {
		bit := u.Decode(u.Chance())
		u.bit(bit)
		v = v<<1 | bit
	}
	return byte(v)
}
