package image

import (
	"valise/colour"
)

// coloured is how many planes a pixel has that has colours, of which the green stands in the middle.
const coloured = 3

// planes is how many a pixel has, a byte each.
type planes int

// turn takes the green from the other colours, if there are any.
func (n planes) turn(pixels []byte) []byte {
	if n != coloured {
		return pixels
	}
	return colour.Turn(pixels)
}

// back is the pixels of which turn makes these.
func (n planes) back(pixels []byte) []byte {
	if n != coloured {
		return pixels
	}
	return colour.Back(pixels)
}

// apart is the planes, one behind the other.
func (n planes) apart(pixels []byte) []byte {
	return colour.Apart(pixels, int(n))
}

// together is the pixels of which these are the planes.
func (n planes) together(b []byte) []byte {
	return colour.Together(b, int(n))
}
