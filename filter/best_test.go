package filter

import (
	"bytes"
	"slices"
	"testing"
)

// bestIs fails unless Best is that.
func bestIs(t *testing.T, row, up []byte, planes, want int) {
	t.Helper()
	if got := Best(row, up, planes); got != want {
		t.Fatalf("Best(%.60x, %.60x, %d): %d; want %d", row, up, planes, got, want)
	}
}

func TestBestOfKnown(t *testing.T) { // P17.2
	for _, c := range []struct {
		row, up []byte
		planes  int
		sums    []int64
		want    int
	}{
		{[]byte{0, 0, 0}, nil, 1, []int64{0, 0, 0, 0, 0}, 0},
		{[]byte{1}, nil, 1, []int64{1, 1, 1, 1, 1}, 0},
		{[]byte{50, 50, 50}, nil, 1, []int64{150, 50, 150, 50, 100}, 1}, // of ties the least
		{[]byte{1, 90, 7}, []byte{1, 90, 7}, 1, []int64{98, 173, 0, 0, 87}, 2},
		{[]byte{5, 5}, []byte{5, 5}, 1, []int64{10, 5, 0, 0, 3}, 2},
		{[]byte{50, 50, 90, 90, 20, 20}, []byte{50, 50, 90, 90, 90, 90}, 1, []int64{320, 160, 140, 70, 150}, 3},
		{[]byte{20, 40, 60}, []byte{40, 60, 80}, 1, []int64{120, 60, 60, 20, 0}, 4},
		{[]byte{10, 10, 90, 90}, []byte{10, 10, 90, 20}, 1, []int64{200, 90, 70, 70, 80}, 2},
		{[]byte{9, 200, 9, 200, 9, 200}, nil, 2, []int64{195, 65, 195, 65, 275}, 1}, // a 200 counts 56
		{[]byte{9, 200, 9, 200, 9, 200}, nil, 1, []int64{195, 334, 195, 334, 371}, 0},
		{[]byte{9, 100, 200, 9, 100, 200}, nil, 3, []int64{330, 165, 330, 165, 320}, 1},
		{[]byte{250, 250, 250}, []byte{3, 3, 3}, 1, []int64{18, 6, 27, 9, 255}, 1},
		{[]byte{255, 0, 255, 0}, nil, 1, []int64{2, 4, 2, 4, 256}, 0},
		{[]byte{127}, []byte{254}, 1, []int64{127, 127, 127, 127, 0}, 4},
		{[]byte{128}, []byte{1}, 1, []int64{128, 128, 127, 127, 128}, 2},
		{[]byte{129}, []byte{2}, 1, []int64{127, 127, 127, 127, 128}, 0},
		{[]byte{128}, []byte{255}, 1, []int64{128, 128, 127, 127, 1}, 4},
		{[]byte{100, 150, 125}, []byte{200, 200, 100}, 1, []int64{331, 175, 175, 175, 0}, 4},
	} {
		var sums []int64
		for kind := range 5 {
			sums = append(sums, sumByWords(Row(kind, c.row, c.up, c.planes)))
		}
		if got := Best(c.row, c.up, c.planes); got != c.want || !slices.Equal(sums, c.sums) {
			t.Errorf("Best(%d, %d, %d): %d of the sums %d; want %d of %d", c.row, c.up, c.planes, got, sums, c.want, c.sums)
		}
	}
}

func TestBestOfNothing(t *testing.T) { // P17.2, R3: of ties the least
	for _, row := range [][]byte{nil, {}, make([]byte, 0, 9)} {
		for _, up := range [][]byte{nil, {}, {1, 2, 3}} {
			for _, planes := range append(strange(), 1, 2, 3, 4) {
				bestIs(t, row, up, planes, 0)
			}
		}
	}
}

func TestBestOfOneByte(t *testing.T) { // P17.2: all there are, below all there are
	for v := range 256 {
		for above := range 256 {
			row, up := []byte{byte(v)}, []byte{byte(above)}
			bestIs(t, row, up, 1, bestByWords(row, up, 1))
		}
	}
}

func TestBestOfAny(t *testing.T) { // P17.2, against its words
	var found [5]int
	for seed := range 6000 {
		l := luck(seed)
		planes := l.planes()
		up := l.bytes(l.below(40))
		row := l.bytes(l.below(40))
		bestIs(t, row, up, planes, bestByWords(row, up, planes))
		planes = 1 + l.below(4)
		up = l.pixels(1+l.below(40), nil, planes)
		row = l.pixels(len(up), up, planes)
		want := bestByWords(row, up, planes)
		bestIs(t, row, up, planes, want)
		found[want]++
	}
	for kind, n := range found {
		if n < 200 {
			t.Errorf("the kind %d is best %d times only", kind, n)
		}
	}
}

func TestBestOfTies(t *testing.T) { // P17.2: the least kind
	found := map[string]int{}
	for seed := range 20000 {
		l := luck(seed)
		n := 1 + l.below(4)
		row, up := make([]byte, n), make([]byte, n)
		for i := range n {
			row[i], up[i] = byte(l.below(4)), byte(l.below(4))
		}
		var sums []int64
		for kind := range 5 {
			sums = append(sums, sumByWords(Row(kind, row, up, 1)))
		}
		want := slices.Index(sums, slices.Min(sums))
		bestIs(t, row, up, 1, want)
		for kind := want + 1; kind < 5; kind++ {
			if sums[kind] == sums[want] {
				found[string([]byte{'0' + byte(want), ' ', '0' + byte(kind)})]++
			}
		}
	}
	for _, pair := range []string{"0 1", "0 2", "0 3", "0 4", "1 2", "1 3", "1 4", "2 3", "2 4", "3 4"} {
		if found[pair] < 10 {
			t.Errorf("the kinds %s tie %d times only", pair, found[pair])
		}
	}
}

func TestBestOfManyBytes(t *testing.T) { // P17.2, R7: a sum of 2^32 is no small one
	row := bytes.Repeat([]byte{128}, 1<<25)
	bestIs(t, row, nil, 1, 1)
	bestIs(t, row[:1<<24], nil, 1, 1) // 2^31
	bestIs(t, row[:1<<23], row, 1, 2)
}
