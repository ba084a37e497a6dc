package image

import (
	"valise/api"
	"valise/num"
)

// packer packs the rows of a picture: their pixels filtered, and told plane by plane.
type packer struct {
	api.Picture
	rows
	planes
}

// packerOf is the one of a picture.
func packerOf(at api.Picture) packer {
	return packer{at, rows{at.Width * at.Planes, at.Planes}, planes(at.Planes)}
}

// end is where the rows end in the file.
func (p packer) end() int {
	return p.From + p.Stride*p.Height
}

// pack writes what stands behind the pixels of each row, by which kind each row is filtered, and what the filter leaves of the pixels. Their colours are turned ahead of that, since it is the rows of the turned ones that are to be alike.
func (p packer) pack(w *num.Writer, lines []byte) {
	pixels, fill := cut(lines, p.Stride, p.width)
	kinds, left := p.apply(p.turn(pixels))
	w.Raw(fill, kinds, p.apart(left))
}

// unpack reads rows, up to the end of what there is.
func (p packer) unpack(r *num.Reader) ([]byte, api.Errno) {
	fill := r.Raw((p.Stride - p.width) * p.Height)
	kinds := r.Raw(p.Height)
	left := r.Raw(p.width * p.Height)
	if err := r.End(); err != api.OK {
		return nil, err
	}
	pixels, err := p.undo(kinds, p.together(left))
	if err != api.OK {
		return nil, err
	}
	return splice(p.back(pixels), fill, p.Height), api.OK
}
