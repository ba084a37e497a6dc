package fixed

import (
	"math"
	"math/big"
	"slices"
	"testing"
)

func TestWeightOfKnown(t *testing.T) { // P11.2
	const least, most = math.MinInt32, math.MaxInt32
	for _, c := range []struct {
		l    []int32
		want uint64
	}{
		{nil, 0}, {[]int32{}, 0}, {[]int32{0}, 0}, {[]int32{0, 0, 0}, 0},
		{[]int32{1}, 1}, {[]int32{-1}, 1}, {[]int32{3, -4, 0, 5}, 12},
		{[]int32{least}, 1 << 31}, {[]int32{least + 1}, 1<<31 - 1}, {[]int32{most}, 1<<31 - 1},
		{[]int32{least, most}, 1<<32 - 1}, {[]int32{least, least}, 1 << 32}, {[]int32{least, least, -1}, 1<<32 + 1},
		{slices.Repeat([]int32{least}, 1<<16), 1 << 47},
		{slices.Repeat([]int32{most}, 1<<16), 1<<47 - 1<<16},
	} {
		if got := Weight(c.l); got != c.want {
			t.Errorf("%d numbers: %d; want %d", len(c.l), got, c.want)
		}
	}
}

func TestWeightOfAny(t *testing.T) { // P11.2
	for _, row := range rows(2) {
		holdWeight(t, row)
	}
	for seed := range 700 {
		l := luck(seed)
		holdWeight(t, l.numbers(l.below(300), seed%kinds))
	}
}

// holdWeight tells of a weight that is not the sum of the amounts.
func holdWeight(t *testing.T, l []int32) {
	t.Helper()
	if got, want := new(big.Int).SetUint64(Weight(l)), weightByWords(l); got.Cmp(want) != 0 {
		t.Fatalf("%v: %d; want %d", l, got, want)
	}
}

func TestBestOfKnown(t *testing.T) { // P11.2
	const least, most = math.MinInt32, math.MaxInt32
	for _, c := range []struct {
		l    []int32
		want int
	}{
		{[]int32{1, 2, 3, 4}, 2}, // example 1
		{nil, 0}, {[]int32{}, 0}, {[]int32{0}, 0}, {[]int32{7}, 0}, {[]int32{least}, 0},
		{[]int32{0, 0, 0, 0, 0}, 0},
		{[]int32{9, -9, 9}, 0},
		{[]int32{7, 7, 7, 7}, 1},
		{[]int32{1, 4, 9, 16, 25, 36, 49}, 3},
		{[]int32{1, 8, 27, 64, 125, 216}, 3},
		{[]int32{least, most}, 1}, // one apart, going round
		{[]int32{most, least}, 1},
		{slices.Repeat([]int32{least}, 1000), 1}, // more than 32 bits of weight
		{[]int32{2, 1}, 0},                       // the weights 3 3 5 7: of two alike the least counts
		{[]int32{-2, 1, 4}, 0},                   // 7 8 7 14
		{[]int32{-2, 0, 6}, 0},                   // 8 10 10 8
		{[]int32{2, 3}, 1},                       // 5 3 3 5
		{[]int32{1, 4, 4, -2}, 1},                // 11 10 12 10
		{[]int32{2, 5}, 2},                       // 7 5 3 3
	} {
		if got := Best(c.l); got != c.want {
			t.Errorf("%v: %d; want %d", c.l, got, c.want)
		}
	}
}

func TestBestOfAny(t *testing.T) { // P11.2: no order leaves less, and each below leaves more
	for n := range 4 {
		for _, row := range rows(n) {
			holdBest(t, row)
		}
	}
	told := map[int]int{}
	for seed := range 700 {
		l := luck(seed)
		told[holdBest(t, l.numbers(l.below(120), seed%kinds))]++
	}
	for order := range 4 {
		if told[order] < 20 {
			t.Errorf("%d is the best of %d rows alone: these try too little", order, told[order])
		}
	}
}

// holdBest tells of an order that is not the least of the best.
func holdBest(t *testing.T, l []int32) int {
	t.Helper()
	got, want := Best(l), bestByWords(l)
	if got != want {
		t.Fatalf("%v: %d; want %d", l, got, want)
	}
	return got
}
