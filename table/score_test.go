package table

import (
	"bytes"
	"testing"

	"valise/api"
)

// scored fails unless b has that score, and the one that the chapter's words tell.
func scored(t *testing.T, b []byte, width, want int) {
	t.Helper()
	if got := Score(b, width); got != want || got != scoreByWords(b, width) {
		t.Fatalf("Score of %.60q, %d: %d; want %d", b, width, got, want)
	}
}

func TestScoreOfKnown(t *testing.T) { // P20.1
	for _, c := range []struct {
		b           string
		width, want int
	}{
		{"12121212", 2, 6}, // example 1
		{"12121212", 1, 0},
		{"12121212", 3, 0},
		{"12121212", 4, 4},
		{"12121212", 7, 0},
		{"12121212", 8, 0},
		{"12121212", 9, 0},
		{"aaaa", 1, 3},
		{"aaaa", 2, 2},
		{"aaaa", 3, 1},
		{"aaaa", 4, 0},
		{"abcabx", 3, 2},
		{"abcxbc", 3, 2},
		{"a\x00b\x00", 2, 1},
		{"\x00\x00", 1, 1},
		{"\x00", 1, 0},
		{"\xff\x00\xff", 2, 1},
		{"abba", 1, 1},
	} {
		scored(t, []byte(c.b), c.width, c.want)
	}
}

func TestScoreOfNoWidth(t *testing.T) { // P20.1, R1: 0, if the width is below 1, or past all bytes
	for _, b := range [][]byte{nil, {}, {5}, {5, 5}, make([]byte, 17), bytes.Repeat([]byte{7}, 100)} {
		for _, width := range []int{least, least + 1, -1 << 32, -100, -2, -1, 0, len(b), len(b) + 1, 1 << 31, 1 << 32, most - 1, most} {
			scored(t, b, width, 0)
		}
	}
}

func TestScoreOfWideOnes(t *testing.T) { // P20.1: of a width any may be, not those of records alone
	b := make([]byte, 1000)
	for width := 1; width <= 1001; width++ {
		scored(t, b, width, max(1000-width, 0))
	}
}

func TestScoreOfEachPlace(t *testing.T) { // P20.1: a byte that is another one is missed where it stands, and where it stands ahead
	for _, width := range []int{1, 2, 3, 7, 16, 20} {
		for place := range 40 {
			b := make([]byte, 40)
			b[place] = 1
			missed := 0
			if place >= width {
				missed++
			}
			if place < 40-width {
				missed++
			}
			scored(t, b, width, 40-width-missed)
		}
	}
}

func TestScoreOfAny(t *testing.T) { // P20.1
	for seed := range 5000 {
		l := luck(seed)
		b := l.bytes(l.below(100))
		width := l.width()
		scored(t, b, width, scoreByWords(b, width))
	}
}

// wide fails unless b has that width, and the one that the chapter's words tell.
func wide(t *testing.T, b []byte, want int) {
	t.Helper()
	if got := Width(b); got != want || got != widthByWords(b) {
		t.Fatalf("Width of %.100q: %d; want %d", b, got, want)
	}
}

func TestWidthOfKnown(t *testing.T) { // P20.1
	for _, c := range []struct {
		b    string
		want int
	}{
		{"12121212", 2}, // example 1
		{"1212121", 0},  // it has no four
		{"123123123123", 3},
		{"12312312312", 0},
		{"abcdabcdabcdabcd", 4},
		{"aaaaaaaa", 2},
		{"aaaaaaa", 0},
		{"aaaaaaaaaaaaaaaaaaaaaaaaaaaaaaaaaaaaaaaaaaaaaaaaaaaaaaaaaaaaaaaaaaaa", 2},
		{"", 0},
		{"abcdefgh", 0},
		{"aaaaaabc", 0}, // a score of 4 of 8 is not more than a half
		{"aaaaaaab", 2}, // 5 of 8
		{"aaaaabcde", 0},
		{"aaaaaabcd", 0}, // 4 of 9
		{"aaaaaaabc", 2}, // 5 of 9
		{"1x1y1z1w1v", 0},
		{"aaaaaaaaabaa", 2},         // by 3 it scores 8, too
		{"aaaaaaaaaaaabbaa", 2},     // by 4, too
		{"aaaaaaaaaaabbaab", 3},     // by 4, too
		{"aaaaaaaaaaabaaabbaaa", 4}, // by 5, too
		{"aaaaaaaaaaabaabbbaab", 3}, // by 5, too
	} {
		wide(t, []byte(c.b), c.want)
	}
}

func TestWidthOfEach(t *testing.T) { // P20.1: from 2 to 16, if there are four of them, and none else
	for width := 1; width <= 40; width++ {
		for _, times := range []int{1, 2, 3, 4, 5, 10, 30} {
			whole := bytes.Repeat(distinct(width), times)
			for _, b := range [][]byte{whole, whole[:len(whole)-1], append(bytes.Clone(whole), whole[0])} {
				want := 0
				switch {
				case width == 1 && len(b) >= 8 && b[0] == b[len(b)-1]:
					want = 2
				case 2 <= width && width <= 16 && len(b) >= 4*width:
					want = width
				}
				wide(t, b, want)
			}
		}
	}
}

func TestWidthOfHalf(t *testing.T) { // P20.1: a score of a half is not enough; one more is
	for width := 2; width <= 16; width++ {
		for size := 4 * width; size < 4*width+9; size++ {
			b := bytes.Repeat(distinct(width), 10)[:size]
			for i := size - 1; Score(b, width) > size/2; i-- {
				wide(t, b, width)
				b[i] = byte(200 + i%50)
			}
			wide(t, b, 0)
		}
	}
}

func TestWidthIsOfTheGreatest(t *testing.T) { // P20.1: neither the first that scores more than a half, nor the last
	rows := bytes.Repeat([]byte("aaaaaaab"), 20) // by each width it scores more than a half
	for width := 2; width <= 16; width++ {
		if Score(rows, width) <= len(rows)/2 {
			t.Fatalf("by %d it scores %d", width, Score(rows, width))
		}
	}
	wide(t, rows, 8)
	wide(t, bytes.Repeat([]byte("aaaaaaaaab"), 20), 10)
	wide(t, bytes.Repeat([]byte("aaaaaaaaaaaaaaab"), 20), 16)
	wide(t, bytes.Repeat([]byte("aaaaaaaaaaaaaaaab"), 20), 2) // the width of which the score is the greatest, 17, is not asked
}

func TestWidthOfTies(t *testing.T) { // P20.1, R10: the least of those that score alike
	ties := 0
	for size := 12; size <= 40; size++ {
		for seed := range 200 {
			l := luck(seed)
			b := l.records(size, 2+l.below(5), 10+l.below(20))
			wide(t, b, widthByWords(b))
			width, alike := Width(b), 0
			for other := 2; other <= size/4; other++ {
				if Score(b, other) == Score(b, width) {
					alike++
				}
			}
			if width != 0 && alike > 1 {
				ties++
			}
		}
	}
	if ties < 20 {
		t.Errorf("%d ties", ties)
	}
}

func TestWidthOfAny(t *testing.T) { // P20.1
	found := map[int]int{}
	for seed := range 8000 {
		l := luck(seed)
		b := l.bytes(l.below(150))
		if l.below(3) > 0 {
			b = l.records(l.below(150), 1+l.below(20), l.below(60))
		}
		wide(t, b, widthByWords(b))
		found[Width(b)]++
	}
	for width := range 17 {
		if (found[width] == 0) != (width == 1) {
			t.Errorf("of width %d: %d", width, found[width])
		}
	}
}

func TestWidthOfMany(t *testing.T) { // P20.1: no length is too great
	for _, size := range []int{api.MaxData - 1, api.MaxData, api.MaxData + 1, 3 * api.MaxData} {
		l := luck(1)
		wide(t, l.records(size, 11, 20), 11)
		wide(t, l.records(size, 16, 20), 16)
		wide(t, l.records(size, 17, 20), 0)
		wide(t, make([]byte, size), 2)
	}
}

func TestWidthOfNumbers(t *testing.T) { // P20.1: of numbers that rise slowly, and of records of some fields
	var small, fields []byte
	for i := range 500 {
		small = append(small, byte(i), byte(i>>8), 0, 0)
		fields = append(fields, 7, 9, byte(i), 0, 0, 1, 2)
	}
	wide(t, small, 4)
	wide(t, fields, 7)
	wide(t, fields[:500], 7)
}
