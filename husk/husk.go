// Package husk packs what a file has around the part of it that is packed otherwise: its samples, or its pixels. It is no layer of its own; audio and image lean on it.
package husk

import (
	"slices"

	"valise/api"
	"valise/num"
)

// Write writes how many bytes a file has, and what it begins and ends with, as that is.
func Write(w *num.Writer, size int, head, tail []byte) {
	w.Num(uint64(size))
	w.Text(head)
	w.Text(tail)
}

// Read reads what Write wrote of a file of at most most bytes (below 0 counts as 0), and MaxData: the file, with zeros between its head and its tail.
func Read(r *num.Reader, most int) ([]byte, api.Errno) {
	most = min(max(most, 0), api.MaxData)
	size := r.Num()
	if size > uint64(most) { // asked while it may be past an int
		return nil, api.ErrLimit
	}
	head, tail := r.Text(most), r.Text(most)
	if err := r.Err(); err != api.OK {
		return nil, err
	}
	zeros := int(size) - len(head) - len(tail)
	if zeros < 0 {
		return nil, api.ErrForm
	}
	return slices.Concat(head, make([]byte, zeros), tail), api.OK
}
