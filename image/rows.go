package image

import (
	"slices"

	"valise/api"
	"valise/filter"
)

// rows filters rows of so many bytes, by pixels of so many bytes each.
type rows struct {
	width, pixel int
}

// apply is the kind by which each row is filtered, and what is left of all of them. A picture's rows are never too many, or too long, for the filter.
func (r rows) apply(pixels []byte) (kinds, left []byte) {
	x, _ := filter.Apply(pixels, r.width, r.pixel)
	return cut(x, 1+r.width, 1)
}

// undo is the rows of which these are the kinds, and what is left.
func (r rows) undo(kinds, left []byte) ([]byte, api.Errno) {
	return filter.Undo(splice(kinds, left, len(kinds)), r.width, r.pixel)
}

// cut is the first n bytes of each row of so many, and what is behind them.
func cut(b []byte, width, n int) (first, behind []byte) {
	for row := range slices.Chunk(b, width) {
		first = append(first, row[:n]...)
		behind = append(behind, row[n:]...)
	}
	return first, behind
}

// splice is the rows of which cut makes these two: so many rows, at least one.
func splice(first, behind []byte, count int) []byte {
	var b []byte
	n, m := len(first)/count, len(behind)/count
	for i := range count {
		b = append(b, first[i*n:(i+1)*n]...)
		b = append(b, behind[i*m:(i+1)*m]...)
	}
	return b
}
