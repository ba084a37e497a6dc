package filter

import (
	"bytes"
	"slices"

	"valise/api"
)

// luck is a row of numbers that look like chance, and are the same each time.
type luck uint64

func (l *luck) below(n int) int {
	*l = *l*6364136223846793005 + 1442695040888963407
	return int(uint64(*l)>>33) % n
}

// one is one of them.
func one[T any](l *luck, all ...T) T {
	return all[l.below(len(all))]
}

// bytes are n of any, or of few, or near the ends of what a byte may be.
func (l *luck) bytes(n int) []byte {
	out := make([]byte, n)
	most := one(l, 256, 256, 4, 1)
	for i := range out {
		out[i] = byte(l.below(most))
		if l.below(8) == 0 {
			out[i] = one[byte](l, 0, 1, 127, 128, 129, 254, 255)
		}
	}
	return out
}

// pixels are n of the next row of an image, of so many planes: now one that is like up, or like its pixels ahead, or both, and now any.
func (l *luck) pixels(n int, up []byte, planes int) []byte {
	out := make([]byte, n)
	kind, most := l.below(6), one(l, 1, 3, 9)
	for i := range out {
		left, above, corner := aroundByWords(out, up, i, planes)
		out[i] = byte(l.below(most))
		switch kind {
		case 1:
			out[i] += left
		case 2:
			out[i] += above
		case 3:
			out[i] += paethByWords(left, above, corner)
		case 4:
			out[i] += byte((int(left) + int(above)) / 2)
		case 5:
			out[i] = byte(l.below(256))
		}
	}
	return out
}

// planes are how many there may be, and how many may not.
func (l *luck) planes() int {
	if l.below(4) == 0 {
		return one(l, strange()...)
	}
	return one(l, 1, 2, 3, 4)
}

// strange are such as are no number of planes, or a great one.
func strange() []int {
	return []int{least, least + 1, -256, -4, -1, 0, 5, 6, 7, 16, 255, 256, 257, most - 1, most}
}

const (
	most  = int(^uint(0) >> 1)
	least = -most - 1
)

// aroundByWords is left, up and corner of place i: of bytes that are known by their places, those that are not are 0.
func aroundByWords(row, up []byte, i, planes int) (left, above, corner byte) {
	if planes < 1 {
		planes = 1
	}
	ahead := int64(i) - int64(planes)
	here, there := map[int64]byte{}, map[int64]byte{}
	for _, k := range []int64{ahead, int64(i)} {
		if k >= 0 && k < int64(len(row)) {
			here[k] = row[k]
		}
		if k >= 0 && k < int64(len(up)) {
			there[k] = up[k]
		}
	}
	return here[ahead], there[int64(i)], there[ahead]
}

// paethByWords puts the three in order, the nearest first.
func paethByWords(a, b, c byte) byte {
	p := int(a) + int(b) - int(c)
	all := []int{int(a), int(b), int(c)}
	slices.SortStableFunc(all, func(x, y int) int { return (x-p)*(x-p) - (y-p)*(y-p) })
	return byte(all[0])
}

// guessByWords is a byte's guess.
func guessByWords(kind int, row, up []byte, i, planes int) int {
	left, above, corner := aroundByWords(row, up, i, planes)
	return map[int]int{1: int(left), 2: int(above), 3: int(paethByWords(left, above, corner)), 4: (int(left) + int(above)) / 2}[kind]
}

// rowByWords is what Row is, by the chapter's words.
func rowByWords(kind int, row, up []byte, planes int) []byte {
	var out []byte
	for i, v := range row {
		out = append(out, byte((int(v)-guessByWords(kind, row, up, i, planes)+256)%256))
	}
	return out
}

// unrowByWords turns rowByWords round, byte by byte.
func unrowByWords(kind int, turned, up []byte, planes int) []byte {
	var out []byte
	for i, v := range turned {
		out = append(out, byte((int(v)+guessByWords(kind, out, up, i, planes))%256))
	}
	return out
}

// sumByWords is that of all bytes, those above 128 as 256 less them.
func sumByWords(row []byte) int64 {
	var sum int64
	for _, v := range row {
		if v > 128 {
			sum += 256 - int64(v)
		} else {
			sum += int64(v)
		}
	}
	return sum
}

// bestByWords is what Best is.
func bestByWords(row, up []byte, planes int) int {
	var sums []int64
	for kind := range 5 {
		sums = append(sums, sumByWords(rowByWords(kind, row, up, planes)))
	}
	return slices.Index(sums, slices.Min(sums))
}

// mayByWords tells whether width and planes are such as may be.
func mayByWords(width, planes int) bool {
	return width >= 1 && width <= 1048576 && slices.Contains([]int{1, 2, 3, 4}, planes)
}

// applyByWords is what Apply is.
func applyByWords(b []byte, width, planes int) ([]byte, api.Errno) {
	if !mayByWords(width, planes) || len(b)%width > 0 || len(b) > 1048576 {
		return nil, api.ErrArg
	}
	var out, up []byte
	for row := range slices.Chunk(b, width) {
		kind := bestByWords(row, up, planes)
		out = append(append(out, byte(kind)), rowByWords(kind, row, up, planes)...)
		up = row
	}
	return out, api.OK
}

// undoByWords is what Undo is.
func undoByWords(x []byte, width, planes int) ([]byte, api.Errno) {
	if !mayByWords(width, planes) || len(x)%(width+1) > 0 || len(x) > 1048576+len(x)/(width+1) {
		return nil, api.ErrArg
	}
	rows := [][]byte{nil}
	for turned := range slices.Chunk(x, width+1) {
		if turned[0] > 4 {
			return nil, api.ErrForm
		}
		rows = append(rows, unrowByWords(int(turned[0]), turned[1:], rows[len(rows)-1], planes))
	}
	return bytes.Join(rows, nil), api.OK
}
