package audio

import (
	"valise/api"
	"valise/num"
	"valise/tracks"
)

// groupSize is how many tracks stand side by side, which may be much alike: the left one and the right one. The last group may have one alone.
const groupSize = 2

// In which way a group is packed.
const (
	apart = iota // each track as it is
	mid          // their middle, and how far apart they are
)

// writer writes groups of tracks into the bytes that are embedded. One that is zero has none.
type writer struct {
	num.Writer
}

// group writes tracks in the way in which they are shorter.
func (w *writer) group(l [][]int32) {
	best := written(apart, l...)
	if len(l) == groupSize {
		m, s, _ := tracks.Mid(l[0], l[1]) // tracks of one file have one length
		if other := written(mid, m, s); len(other) < len(best) {
			best = other
		}
	}
	w.Raw(best)
}

// written is a group that is packed that way, of which these are left.
func written(way uint64, l ...[]int32) []byte {
	var w writer
	w.Num(way)
	for _, track := range l {
		w.track(track)
	}
	return w.Bytes()
}

// track writes one, by its shortest packer.
func (w *writer) track(l []int32) {
	tag, b := shortest(l)
	w.Num(uint64(tag))
	w.Text(b)
}

// reader reads what a writer writes.
type reader struct {
	*num.Reader
}

// group reads as many tracks as l has, of n samples each.
func (r reader) group(l [][]int32, n int) api.Errno {
	way := r.Num()
	for i := range l {
		track, err := r.track(n)
		if err != api.OK {
			return err
		}
		l[i] = track
	}
	switch {
	case way == apart:
		return api.OK
	case way > mid || len(l) < groupSize:
		return api.ErrForm
	}
	var err api.Errno
	l[0], l[1], err = tracks.Unmid(l[0], l[1])
	return err
}

// track reads one of n samples.
func (r reader) track(n int) ([]int32, api.Errno) {
	tag := r.Num()
	b := r.Text(r.Left())
	if err := r.Err(); err != api.OK {
		return nil, err
	}
	if tag > learningTag {
		return nil, api.ErrForm
	}
	return packerOf(int(tag)).unpack(b, n)
}
