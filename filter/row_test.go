package filter

import (
	"bytes"
	"testing"
)

// kindsAndOthers are those that there are, and some that there are not.
func kindsAndOthers() []int {
	return []int{0, 1, 2, 3, 4, 5, 6, 255, 256, 257, 259, 1<<16 + 3, -1, -2, -3, -4, -255, least, most, most - 1}
}

// hold fails unless row is turned, and taken for turned, as the chapter's words say, and comes back both ways.
func hold(t *testing.T, kind int, row, up []byte, planes int) {
	t.Helper()
	turned, whole := Row(kind, row, up, planes), Unrow(kind, row, up, planes)
	if want := rowByWords(kind, row, up, planes); !bytes.Equal(turned, want) {
		t.Fatalf("Row(%d, %.60x, %.60x, %d): %.60x; by words %.60x", kind, row, up, planes, turned, want)
	}
	if want := unrowByWords(kind, row, up, planes); !bytes.Equal(whole, want) {
		t.Fatalf("Unrow(%d, %.60x, %.60x, %d): %.60x; by words %.60x", kind, row, up, planes, whole, want)
	}
	if back := Unrow(kind, turned, up, planes); !bytes.Equal(back, row) {
		t.Fatalf("Unrow(%d, ..) of Row of %.60x, %.60x, %d: %.60x", kind, row, up, planes, back)
	}
	if back := Row(kind, whole, up, planes); !bytes.Equal(back, row) {
		t.Fatalf("Row(%d, ..) of Unrow of %.60x, %.60x, %d: %.60x", kind, row, up, planes, back)
	}
}

func TestPaethOfKnown(t *testing.T) { // P17.1
	for _, c := range []struct{ a, b, c, want byte }{
		{1, 2, 3, 1}, // example 1: p is 0
		{0, 0, 0, 0}, {9, 9, 9, 9}, {7, 0, 0, 7}, {0, 7, 0, 7}, {0, 0, 7, 0},
		{10, 20, 15, 15}, {20, 10, 15, 15}, // as near as the others are, is not nearest: p is 15 itself
		{10, 20, 10, 20}, {10, 20, 20, 10},
		{255, 255, 0, 255}, {0, 0, 255, 0}, // p is 510, and -255
		{0, 255, 255, 0}, {255, 0, 255, 0}, {255, 0, 0, 255}, {0, 255, 0, 255},
		{3, 1, 2, 2}, {200, 100, 250, 100},
		{4, 8, 7, 4},  // p is 5: a lacks 1
		{2, 6, 5, 2},  // p is 3: a lacks 1
		{6, 4, 5, 5},  // p is 5
		{4, 10, 8, 4}, // p is 6: a and c are alike near
		{10, 4, 8, 4}, // p is 6: b and c are alike near
		{8, 8, 4, 8},  // p is 12: a and b are alike near, and are the same
		{5, 9, 4, 9},  // p is 10
		{9, 5, 4, 9},
		{0, 2, 1, 1}, {2, 0, 1, 1}, {1, 4, 3, 1}, {4, 1, 3, 1},
	} {
		if got := Paeth(c.a, c.b, c.c); got != c.want {
			t.Errorf("Paeth(%d, %d, %d): %d; want %d", c.a, c.b, c.c, got, c.want)
		}
	}
}

func TestPaethOfAll(t *testing.T) { // P17.1: by how far each is from p, worked out the short way
	distance := func(n int) int { return max(n, -n) }
	for a := range 256 {
		for b := range 256 {
			for c := range 256 {
				fromA, fromB, fromC := distance(b-c), distance(a-c), distance(a+b-2*c)
				want := c
				if fromA <= fromB && fromA <= fromC {
					want = a
				} else if fromB <= fromC {
					want = b
				}
				if got := Paeth(byte(a), byte(b), byte(c)); got != byte(want) {
					t.Fatalf("Paeth(%d, %d, %d): %d; want %d", a, b, c, got, want)
				}
			}
		}
	}
}

func TestRowOfKnown(t *testing.T) { // P17.1
	for _, c := range []struct {
		what         string
		kind, planes int
		row, up      []byte
		want         []byte
	}{
		{"example 1", 1, 1, []byte{5, 7}, nil, []byte{5, 2}},
		{"nothing is guessed", 0, 1, []byte{5, 7, 255}, []byte{1, 2, 3}, []byte{5, 7, 255}},
		{"left", 1, 1, []byte{5, 7, 4}, []byte{1, 2, 3}, []byte{5, 2, 253}},
		{"left, of two planes", 1, 2, []byte{5, 7, 4, 9}, []byte{1, 2, 3, 4}, []byte{5, 7, 255, 2}},
		{"left, of three planes", 1, 3, []byte{5, 7, 4, 9, 0}, nil, []byte{5, 7, 4, 4, 249}},
		{"left, of more planes than bytes", 1, 6, []byte{5, 7, 4, 9, 0}, nil, []byte{5, 7, 4, 9, 0}},
		{"up", 2, 1, []byte{5, 7, 4}, []byte{1, 8, 4}, []byte{4, 255, 0}},
		{"up, of four planes", 2, 4, []byte{5, 7, 4}, []byte{1, 8, 4}, []byte{4, 255, 0}},
		{"up, where there is none", 2, 1, []byte{5, 7, 4}, nil, []byte{5, 7, 4}},
		{"up, shorter", 2, 1, []byte{5, 7, 4}, []byte{6}, []byte{255, 7, 4}},
		{"up, longer", 2, 1, []byte{5}, []byte{6, 7, 8}, []byte{255}},
		{"Paeth", 3, 1, []byte{5, 7, 4}, []byte{1, 8, 4}, []byte{4, 255, 0}},                           // of 0 1 0: 1; 5 8 1: 8; 7 4 8: 4
		{"Paeth, of two planes", 3, 2, []byte{5, 7, 4, 9}, []byte{1, 8, 4, 2}, []byte{4, 255, 255, 7}}, // 0 1 0: 1; 0 8 0: 8; 5 4 1: 5; 7 2 8: 2
		{"Paeth, where there is no row ahead", 3, 1, []byte{5, 7, 4}, nil, []byte{5, 2, 253}},
		{"Paeth, where the row ahead ends by a corner", 3, 1, []byte{5, 7, 4}, []byte{1, 8}, []byte{4, 255, 4}}, // 7 0 8: 0
		{"middle", 4, 1, []byte{5, 7, 4}, []byte{1, 8, 4}, []byte{5, 1, 255}},                                   // 0, 6, 5
		{"middle, of great ones", 4, 1, []byte{255, 255, 0}, []byte{255, 254, 255}, []byte{128, 1, 1}},          // 127, 254, 255
		{"middle, where there is no row ahead", 4, 1, []byte{5, 7, 4}, nil, []byte{5, 5, 1}},                    // 0, 2, 3
		{"another kind", 5, 1, []byte{5, 7, 4}, []byte{1, 8, 4}, []byte{5, 7, 4}},
		{"a kind below 0", -1, 1, []byte{5, 7, 4}, []byte{1, 8, 4}, []byte{5, 7, 4}},
		{"no planes", 1, 0, []byte{5, 7, 4}, nil, []byte{5, 2, 253}},
		{"planes below 0", 3, -9, []byte{5, 7, 4}, []byte{1, 8, 4}, []byte{4, 255, 0}},
	} {
		if got := Row(c.kind, c.row, c.up, c.planes); !bytes.Equal(got, c.want) {
			t.Errorf("%s: Row: %d; want %d", c.what, got, c.want)
		}
		if got := Unrow(c.kind, c.want, c.up, c.planes); !bytes.Equal(got, c.row) {
			t.Errorf("%s: Unrow: %d; want %d", c.what, got, c.row)
		}
		hold(t, c.kind, c.row, c.up, c.planes)
	}
}

func TestRowOfNothing(t *testing.T) { // P17.1, R1, R3
	for _, row := range [][]byte{nil, {}, make([]byte, 0, 9)} {
		for _, up := range [][]byte{nil, {}, {1, 2, 3}} {
			for _, kind := range kindsAndOthers() {
				if a, b := Row(kind, row, up, 1), Unrow(kind, row, up, 1); len(a) > 0 || len(b) > 0 {
					t.Errorf("%d, %d; want nothing", a, b)
				}
			}
		}
	}
	row := []byte{9, 8, 200}
	for _, kind := range kindsAndOthers() {
		if !bytes.Equal(Row(kind, row, nil, 1), Row(kind, row, []byte{}, 1)) || !bytes.Equal(Unrow(kind, row, nil, 1), Unrow(kind, row, []byte{}, 1)) {
			t.Errorf("kind %d: nil and no bytes are not the same", kind)
		}
	}
}

func TestRowOfOtherKinds(t *testing.T) { // P17.1: they are as kind 0
	l := luck(1)
	row, up := l.bytes(40), l.bytes(40)
	for _, kind := range kindsAndOthers() {
		hold(t, kind, row, up, 3)
		is := kind >= 1 && kind <= 4
		if got := bytes.Equal(Row(kind, row, up, 3), row); got == is {
			t.Errorf("kind %d: Row leaves the row as it is: %v", kind, got)
		}
		if got := bytes.Equal(Unrow(kind, row, up, 3), row); got == is {
			t.Errorf("kind %d: Unrow leaves the row as it is: %v", kind, got)
		}
	}
}

func TestRowOfOtherPlanes(t *testing.T) { // the chapter's words: below 1 counts as 1; however far ahead, what is not there is 0
	l := luck(2)
	row, up := l.bytes(40), l.bytes(50)
	for kind := range 5 {
		for _, planes := range strange() {
			hold(t, kind, row, up, planes)
			as := planes
			if planes < 1 {
				as = 1
			} else if planes > 40 {
				as = 40
			}
			if a, b := Row(kind, row, up, planes), Row(kind, row, up, as); !bytes.Equal(a, b) {
				t.Errorf("kind %d, %d planes: %.60x; want as of %d, %.60x", kind, planes, a, as, b)
			}
		}
		for planes := -3; planes <= 60; planes++ {
			hold(t, kind, row, up, planes)
		}
	}
}

func TestRowOfTwoLengths(t *testing.T) { // the chapter's words: what is not there is 0
	l := luck(3)
	row, up := l.bytes(30), l.bytes(45)
	for n := range row {
		for m := range up {
			for kind := range 5 {
				for planes := 1; planes <= 4; planes++ {
					hold(t, kind, row[:n], up[:m], planes)
				}
			}
		}
	}
}

func TestRowOfAny(t *testing.T) { // P17.1, against its words
	for seed := range 20000 {
		l := luck(seed)
		row, up := l.bytes(l.below(50)), l.bytes(l.below(50))
		hold(t, one(&l, 0, 1, 2, 3, 4, 3, 4, one(&l, kindsAndOthers()...)), row, up, l.planes())
	}
}

func TestRowOfPixels(t *testing.T) { // P17.1: each kind leaves little of what is like its guess
	for seed := range 5000 {
		l := luck(seed)
		planes := 1 + l.below(4)
		up := l.pixels(1+l.below(60), nil, planes)
		row := l.pixels(len(up), up, planes)
		for kind := range 5 {
			hold(t, kind, row, up, planes)
		}
	}
}

func TestRowOfOneTwice(t *testing.T) { // P17.1: row and up may be the same bytes, or share some
	l := luck(4)
	b := l.bytes(60)
	for kind := range 5 {
		hold(t, kind, b, b, 1)
		hold(t, kind, b[10:40], b[:30], 2)
		hold(t, kind, b[:30], b[10:40], 3)
	}
	if got := Row(2, b, b, 1); !bytes.Equal(got, make([]byte, 60)) {
		t.Errorf("%x is left of a row by itself", got)
	}
}

func TestRowOfMany(t *testing.T) { // P17.1: no length is too great
	l := luck(5)
	row, up := l.bytes(1<<20+7), l.bytes(1<<20+3)
	for kind := range 5 {
		turned := Row(kind, row, up, 3)
		if !bytes.Equal(Unrow(kind, turned, up, 3), row) || len(turned) != len(row) {
			t.Errorf("kind %d: another row comes back", kind)
		}
		if end, want := turned[1<<20-10:], rowByWords(kind, row[1<<20-100:], up[1<<20-100:], 3)[90:]; !bytes.Equal(end, want) {
			t.Errorf("kind %d: it ends by %x; want %x", kind, end, want)
		}
	}
}
