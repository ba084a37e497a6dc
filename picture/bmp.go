package picture

import (
	"valise/api"
	"valise/num"
)

const (
	bmpSize  = 54 // bytes of a head
	infoSize = 40 // of which so many are its second part, which tells how long it is
)

// bmp reads the head of a BMP file.
type bmp struct {
	*num.Reader
}

// newBmp is one at the beginning of b: it needs no more of it than a head has.
func newBmp(b []byte) *bmp {
	return &bmp{num.New(b[:min(len(b), bmpSize)])}
}

// head is what the file tells; the zero one, if it is no BMP file, or its pixels are no bytes as they are.
func (r *bmp) head() head {
	kind := string(r.Raw(2))
	r.Raw(8) // how long the file says it is counts for nothing
	from := r.Little(4)
	info := r.Little(4)
	width := r.Little(4)
	height := amount(r.Little(4))
	layers := r.Little(2)
	planes := planesOf(r.Little(2))
	packing := r.Little(4)
	r.Raw(20) // nor does how it is to be shown
	if r.Err() != api.OK || kind != "BM" || from < bmpSize || info < infoSize || layers != 1 || planes == 0 || packing != 0 {
		return head{}
	}
	stride := (width*planes + 3) / 4 * 4
	return head{width, height, planes, stride, from}
}

// amount is how far from 0 the signed four bytes v are: of an image that is told from its upper row on the height is below 0.
func amount(v uint64) uint64 {
	n := int64(int32(v))
	return uint64(max(n, -n))
}

// planesOf is how many bytes a pixel of so many bits has; 0, if a pixel may not be so.
func planesOf(bits uint64) uint64 {
	switch bits {
	case 24:
		return 3
	case 8:
		return 1
	}
	return 0
}
