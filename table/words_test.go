package table

import (
	"valise/api"
	"valise/num"
)

// luck is a row of numbers that look like chance, and are the same each time.
type luck uint64

func (l *luck) below(n int) int {
	*l = *l*6364136223846793005 + 1442695040888963407
	return int(uint64(*l)>>33) % n
}

// one is one of them.
func one[T any](l *luck, all ...T) T {
	return all[l.below(len(all))]
}

// bytes are n of any, or of few, or near the ends of what a byte may be.
func (l *luck) bytes(n int) []byte {
	out := make([]byte, n)
	most := one(l, 256, 256, 4, 2)
	for i := range out {
		out[i] = byte(l.below(most))
		if l.below(8) == 0 {
			out[i] = one[byte](l, 0, 1, 127, 128, 129, 254, 255)
		}
	}
	return out
}

// records are n bytes of records of that width, of each of which about so many of 100 bytes are another one than ahead.
func (l *luck) records(n, width, share int) []byte {
	out := l.bytes(n)
	for i := width; i < n; i++ {
		if l.below(100) >= share {
			out[i] = out[i-width]
		}
	}
	return out
}

// width is one that may be asked of Score and Delta: of records, or a strange one.
func (l *luck) width() int {
	if l.below(4) == 0 {
		return one(l, strange()...)
	}
	return 1 + l.below(20)
}

// strange are such that are below 1, or above what there mostly is.
func strange() []int {
	return []int{least, least + 1, -1 << 31, -257, -256, -255, -16, -2, -1, 0, 17, 255, 256, 257, 1<<16 + 2, 1<<31 - 1, 1 << 32, 1<<32 + 2, most - 1, most}
}

const (
	most  = int(^uint(0) >> 1)
	least = -most - 1
)

// distinct are n bytes, no two alike.
func distinct(n int) []byte {
	out := make([]byte, n)
	for i := range out {
		out[i] = byte(40 + i)
	}
	return out
}

// scoreByWords is what Score is, by the chapter's words.
func scoreByWords(b []byte, width int) int {
	if width < 1 {
		return 0
	}
	count := 0
	for place := len(b) - 1; place >= width; place-- {
		if b[place] == b[place-width] {
			count++
		}
	}
	return count
}

// widthByWords is what Width is: the asked widths, the greatest of their scores, the least that has it, and whether that is more than a half.
func widthByWords(b []byte) int {
	scores := map[int]int{}
	greatest := 0
	for _, width := range []int{2, 3, 4, 5, 6, 7, 8, 9, 10, 11, 12, 13, 14, 15, 16} {
		if len(b) >= 4*width {
			scores[width] = scoreByWords(b, width)
			greatest = max(greatest, scores[width])
		}
	}
	answer := 0
	for width, score := range scores {
		if score == greatest && (answer == 0 || width < answer) {
			answer = width
		}
	}
	if 2*greatest <= len(b) {
		return 0
	}
	return answer
}

// deltaByWords is what Delta is.
func deltaByWords(b []byte, width int) []byte {
	if width < 1 {
		width = 1
	}
	var out []byte
	for i, v := range b {
		ahead := 0
		if i >= width {
			ahead = int(b[i-width])
		}
		out = append(out, byte((int(v)-ahead+256)%256))
	}
	return out
}

// undeltaByWords is what Undelta is: each byte is the sum of those in its column so far.
func undeltaByWords(b []byte, width int) []byte {
	if width < 1 {
		width = 1
	}
	var out []byte
	for i := range b {
		sum := 0
		for at := i; at >= 0; at -= width {
			sum += int(b[at])
		}
		out = append(out, byte(sum%256))
	}
	return out
}

// laid is what bytes would be packed to, if these were their width, their length and their columns.
func laid(width, size uint64, columns ...[]byte) []byte {
	var w num.Writer
	w.Num(width)
	w.Num(size)
	w.Raw(columns...)
	return w.Bytes()
}

// packedBy is what b would be packed to by that width, whatever Width tells of it.
func packedBy(b []byte, width int) []byte {
	delta := deltaByWords(b, width)
	rows := len(b) / width
	var columns []byte
	for column := range width {
		for row := range rows {
			columns = append(columns, delta[row*width+column])
		}
	}
	return laid(uint64(width), uint64(len(b)), columns, delta[rows*width:])
}

// unpackByWords is what Unpack is, by the chapter's words.
func unpackByWords(x []byte, most int) ([]byte, api.Errno) {
	r := num.New(x)
	width := r.Num()
	if err := r.Err(); err != api.OK {
		return nil, err
	}
	size := r.Num()
	if err := r.Err(); err != api.OK {
		return nil, err
	}
	if width < 2 || 16 < width {
		return nil, api.ErrForm
	}
	if most < 0 {
		most = 0
	}
	if size > uint64(most) || size > 1048576 {
		return nil, api.ErrLimit
	}
	columns := x[len(x)-r.Left():]
	if uint64(len(columns)) != size {
		return nil, api.ErrForm
	}
	return undeltaByWords(rowsOf(columns, int(width)), int(width)), api.OK
}

// rowsOf is the rows of these columns, and what is left.
func rowsOf(columns []byte, width int) []byte {
	rows := len(columns) / width
	var out []byte
	for row := range rows {
		for column := range width {
			out = append(out, columns[column*rows+row])
		}
	}
	return append(out, columns[rows*width:]...)
}
