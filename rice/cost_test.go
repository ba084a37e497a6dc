package rice

import (
	"math"
	"slices"
	"testing"

	"valise/api"
)

func TestCostOfKnown(t *testing.T) { // P10.1
	for _, c := range []struct {
		l       []int32
		k, want int
	}{
		{[]int32{0, -1, 1}, 0, 6}, // example 1: 1 and 2 and 3
		{[]int32{0, -1, 1}, 1, 7},
		{[]int32{0, -1, 1}, 24, 75},
		{nil, 0, 0}, {nil, 9, 0}, {[]int32{}, 24, 0},
		{[]int32{11}, 0, 23}, {[]int32{-12}, 0, 24}, {[]int32{12}, 0, 56}, {[]int32{-13}, 0, 56},
		{[]int32{23}, 1, 25}, {[]int32{-24}, 1, 25}, {[]int32{24}, 1, 56},
		{[]int32{12<<24 - 1}, 24, 48}, {[]int32{-12 << 24}, 24, 48}, {[]int32{12 << 24}, 24, 56}, {[]int32{-12<<24 - 1}, 24, 56},
		{[]int32{math.MaxInt32, math.MinInt32}, 0, 112}, {[]int32{math.MaxInt32, math.MinInt32}, 24, 112},
		{slices.Repeat([]int32{0}, 1000), 3, 4000}, // longer than a block
	} {
		if got := Cost(c.l, c.k); got != c.want {
			t.Errorf("%v, %d: %d; want %d", c.l, c.k, got, c.want)
		}
	}
}

func TestCostOfOddParameters(t *testing.T) { // P10.1: below 0 counts as 0, above 24 as 24
	for seed := range 100 {
		l := luck(seed)
		row := l.numbers(l.below(70), seed%kinds)
		for _, k := range []int{-1, -2, -24, -64, math.MinInt32, math.MinInt} {
			if got, want := Cost(row, k), Cost(row, 0); got != want {
				t.Errorf("%v, %d: %d; want %d", row, k, got, want)
			}
		}
		for _, k := range []int{25, 26, 31, 32, 33, 64, 256, math.MaxInt32, math.MaxInt} {
			if got, want := Cost(row, k), Cost(row, 24); got != want {
				t.Errorf("%v, %d: %d; want %d", row, k, got, want)
			}
		}
	}
}

func TestCostOfEdges(t *testing.T) { // P10.1; what follows: a number never has more than 56 bits
	for _, v := range edges() {
		for k := range 25 {
			got, want := Cost([]int32{v}, k), len(spell(v, k))
			if got != want || got > 56 {
				t.Errorf("%d, %d: %d; want %d", v, k, got, want)
			}
		}
	}
}

func TestCostOfAny(t *testing.T) { // P10.1: all of them, of each parameter
	for seed := range 300 {
		l := luck(seed)
		row := l.numbers(l.below(200), seed%kinds)
		for k := range 25 {
			if got, want := Cost(row, k), len(spellAll(row, k)); got != want {
				t.Fatalf("seed %d, %d: %d; want %d", seed, k, got, want)
			}
		}
	}
}

func TestBestOfKnown(t *testing.T) { // P10.1
	for _, c := range []struct {
		l    []int32
		want int
	}{
		{nil, 0}, {[]int32{}, 0}, {[]int32{0}, 0},
		{[]int32{1}, 0},               // 3 bits with 0, and with 1: the least
		{[]int32{1, -1, 1, -2, 2}, 1}, // 17 bits with 0, 15 with 1, 16 with 2
		{[]int32{11}, 3},              // 6 bits with 3, and with 4
		{[]int32{12}, 4},              // 6 bits with 4, 7 with 3
		{[]int32{1000, -1000, 999}, 10},
		{[]int32{12<<24 - 1}, 24}, {[]int32{-12 << 24}, 24},
		{[]int32{12 << 24}, 0}, {[]int32{-12<<24 - 1}, 0}, // the same bits with all of them
		{[]int32{math.MaxInt32, 0, math.MinInt32}, 0},
		{[]int32{math.MaxInt32, 1000, math.MinInt32}, 10}, // the one that is not written whole: 12 bits with 10, and with 11
	} {
		if got := Best(c.l); got != c.want {
			t.Errorf("%v: %d; want %d", c.l, got, c.want)
		}
	}
}

func TestBestOfEachParameter(t *testing.T) { // P10.1: each of them can be the best
	for want := range 25 {
		row := slices.Repeat([]int32{plainUnfold(3<<want/2 - 1), plainUnfold(3 << want / 2)}, 7)
		if got := Best(row); got != want {
			t.Errorf("%v: %d; want %d", row, got, want)
		}
	}
}

func TestBestOfAny(t *testing.T) { // P10.1: none is better, and each below is worse
	for seed := range 600 {
		l := luck(seed)
		row := l.numbers(l.below(100), seed%kinds)
		want, _ := bestByWords(row)
		if got := Best(row); got != want {
			t.Fatalf("seed %d: %d; want %d", seed, got, want)
		}
	}
	for _, v := range edges() {
		row := []int32{v}
		if got, want := Best(row), first(bestByWords(row)); got != want {
			t.Errorf("%d: %d; want %d", v, got, want)
		}
	}
}

func first(k int, _ string) int { return k }

func TestCostOfMany(t *testing.T) { // P10.1, R1: no limit is named for these
	row := slices.Repeat([]int32{math.MinInt32}, 2*api.MaxData)
	if got := Cost(row, 5); got != 56*len(row) {
		t.Errorf("%d; want %d", got, 56*len(row))
	}
	if got := Best(row); got != 0 {
		t.Errorf("best %d; want 0", got)
	}
}
