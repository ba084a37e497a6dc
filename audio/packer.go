package audio

import (
	"valise/api"
	"valise/fixed"
	"valise/lms"
	"valise/rice"
)

// predictor guesses each sample of a track by the ones ahead.
type predictor interface {
	residual(l []int32) []int32
	restore(l []int32) []int32
}

// rigid guesses in a fixed way, of that order.
type rigid int

func (o rigid) residual(l []int32) []int32 {
	return fixed.Residual(l, int(o))
}

func (o rigid) restore(l []int32) []int32 {
	return fixed.Restore(l, int(o))
}

// learning guesses by weights that learn.
type learning struct{}

func (learning) residual(l []int32) []int32 {
	return lms.Residual(l)
}

func (learning) restore(l []int32) []int32 {
	return lms.Restore(l)
}

// A packer's tag is the order of its predictor, or the one behind all orders, if that learns.
const learningTag = api.MaxOrder + 1

// packer packs a track as what the predictor that is embedded leaves of it.
type packer struct {
	predictor
	tag int
}

// packerOf is the one of a tag, from 0 to learningTag.
func packerOf(tag int) packer {
	if tag == learningTag {
		return packer{learning{}, tag}
	}
	return packer{rigid(tag), tag}
}

// pack is what l is, packed. A track never has more samples than rice takes, since a file has no more bytes.
func (p packer) pack(l []int32) []byte {
	b, _ := rice.Pack(p.residual(l))
	return b
}

// unpack is the n samples of which b was packed.
func (p packer) unpack(b []byte, n int) ([]int32, api.Errno) {
	l, err := rice.Unpack(b, n)
	if err != api.OK {
		return nil, err
	}
	return p.restore(l), api.OK
}

// shortest is what l is by the packer that makes the least of it, and that one's tag.
func shortest(l []int32) (tag int, b []byte) {
	tag = fixed.Best(l)
	b = packerOf(tag).pack(l)
	if other := packerOf(learningTag).pack(l); len(other) < len(b) {
		return learningTag, other
	}
	return tag, b
}
