package filter

// What a byte's guess is.
const (
	byNone = iota
	byLeft
	byUp
	byPaeth
	byMiddle
	kinds // so many there are
)

// row is a row's bytes.
type row []byte

// at is the byte at place i; 0, if it is not there.
func (r row) at(i int) byte {
	if i < 0 || i >= len(r) {
		return 0
	}
	return r[i]
}

// neighbours is what stands around a row's bytes: the row ahead, and the pixels ahead in either row, each so many planes wide.
type neighbours struct {
	up     row
	planes int
}

// field is a row and its neighbours.
type field struct {
	row
	neighbours
}

func newField(line, up []byte, planes int) field {
	return field{line, neighbours{up, max(planes, 1)}}
}

// near is the bytes that one is guessed by.
type near struct{ left, up, corner byte }

// around is those of the byte at place i. In its own row they stand ahead of it, so that a row can be filled byte by byte.
func (f field) around(i int) near {
	return near{f.at(i - f.planes), f.up.at(i), f.up.at(i - f.planes)}
}

// guess is what the byte is taken to be.
func (n near) guess(kind int) byte {
	switch kind {
	case byLeft:
		return n.left
	case byUp:
		return n.up
	case byPaeth:
		return Paeth(n.left, n.up, n.corner)
	case byMiddle:
		return byte((int(n.left) + int(n.up)) / 2)
	}
	return 0
}

// turn writes the row into turned, each byte less its guess. That goes round, and so does fill: what the one takes too much, the other puts back.
func (f field) turn(kind int, turned []byte) {
	for i, v := range f.row {
		turned[i] = v - f.around(i).guess(kind)
	}
}

// fill writes the row that was turned to these bytes.
func (f field) fill(kind int, turned []byte) {
	for i, v := range turned {
		f.row[i] = v + f.around(i).guess(kind)
	}
}

// best is the least kind that leaves the least.
func (f field) best() int {
	var sums [kinds]uint64
	for i, v := range f.row {
		n := f.around(i)
		for kind := range sums {
			sums[kind] += amount(v - n.guess(kind))
		}
	}
	best := byNone
	for kind, sum := range sums {
		if sum < sums[best] {
			best = kind
		}
	}
	return best
}

// amount is how far a turned byte is from 0, the one way or the other.
func amount(v byte) uint64 {
	if v > 128 {
		return 256 - uint64(v)
	}
	return uint64(v)
}
