package coder

import (
	"valise/api"
)

const (
	whole    = 1 << api.Chances // parts of a chance
	leading  = 24               // bits behind the highest byte of a number
	numBytes = 4                // of low, of high and of a code
)

// span is a range. One that is zero is as wide as one can be, since what is kept of high is how far it is below the greatest number: so an encoder that is zero, or a decoder, is right from the start.
//
// Between two calls low and high differ in their highest byte, so that there is room for a one and for a zero, whatever the chance.
type span struct {
	low   uint32
	below uint32
}

// high is the last number of the range.
func (s *span) high() uint32 {
	return ^s.below
}

// mid is the last number that stands for a one of that chance. The difference is divided ahead of the product, which would be above 32 bits.
func (s *span) mid(chance int) uint32 {
	c := uint32(min(max(chance, 1), whole-1))
	wide := s.high() - s.low
	return s.low + wide/whole*c + wide%whole*c/whole
}

// narrow leaves what stands for a one, or what stands for a zero.
func (s *span) narrow(one bool, mid uint32) {
	if one {
		s.below = ^mid
	} else {
		s.low = mid + 1
	}
}

// settled tells whether the highest byte is known, whatever bits come.
func (s *span) settled() bool {
	return s.low>>leading == s.high()>>leading
}

// shift takes the highest byte away, and answers it. The zeros that come into below are ones in high.
func (s *span) shift() byte {
	first := byte(s.low >> leading)
	s.low <<= 8
	s.below <<= 8
	return first
}
