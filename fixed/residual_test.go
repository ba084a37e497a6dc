package fixed

import (
	"math"
	"slices"
	"testing"
)

// hold tells of a row that is not turned, or not turned back, as it should be.
func hold(t *testing.T, l []int32, order int) {
	t.Helper()
	if got, want := Residual(l, order), residualByWords(l, order); !slices.Equal(got, want) {
		t.Fatalf("Residual of %v, %d: %v; want %v", l, order, got, want)
	}
	if got, want := Restore(l, order), restoreByWords(l, order); !slices.Equal(got, want) {
		t.Fatalf("Restore of %v, %d: %v; want %v", l, order, got, want)
	}
	again(t, l, order)
}

// again tells of a row that does not come out as it went in.
func again(t *testing.T, l []int32, order int) {
	t.Helper()
	if got := Restore(Residual(l, order), order); !slices.Equal(got, l) {
		t.Fatalf("restored, of order %d: %v; want %v", order, got, l)
	}
	if got := Residual(Restore(l, order), order); !slices.Equal(got, l) {
		t.Fatalf("taken away again, of order %d: %v; want %v", order, got, l)
	}
}

func TestResidualOfKnown(t *testing.T) { // P11.1
	const least, most = math.MinInt32, math.MaxInt32
	for _, c := range []struct {
		l     []int32
		order int
		want  []int32
	}{
		{[]int32{5, 7, 9}, 2, []int32{5, -3, 0}}, // example 1
		{[]int32{5, 7, 9}, 0, []int32{5, 7, 9}},
		{[]int32{5, 7, 9}, 1, []int32{5, 2, 2}},
		{[]int32{5, 7, 9}, 3, []int32{5, -8, 3}},
		{[]int32{6}, 0, []int32{6}}, {[]int32{6}, 1, []int32{6}}, {[]int32{6}, 2, []int32{6}}, {[]int32{6}, 3, []int32{6}},
		{[]int32{1, 0, 0, 0, 0}, 0, []int32{1, 0, 0, 0, 0}},
		{[]int32{1, 0, 0, 0, 0}, 1, []int32{1, -1, 0, 0, 0}},
		{[]int32{1, 0, 0, 0, 0}, 2, []int32{1, -2, 1, 0, 0}},
		{[]int32{1, 0, 0, 0, 0}, 3, []int32{1, -3, 3, -1, 0}},
		{[]int32{1, 8, 27, 64, 125}, 3, []int32{1, 5, 6, 6, 6}},
		{[]int32{least, most}, 1, []int32{least, -1}},
		{[]int32{most, least}, 1, []int32{most, 1}},
		{[]int32{0, least}, 1, []int32{0, least}},
		{[]int32{least, 0}, 1, []int32{least, least}},
		{[]int32{least, least, least}, 2, []int32{least, least, 0}},
		{[]int32{most, most, least}, 2, []int32{most, -most, 1}},
		{[]int32{1 << 30, -1 << 30}, 2, []int32{1 << 30, 1 << 30}},
		{[]int32{most, least, most, least}, 3, []int32{most, 3, most - 3, 4}},
		{[]int32{least, 0, 0, 0}, 3, []int32{least, least, least, least}},
	} {
		if got := Residual(c.l, c.order); !slices.Equal(got, c.want) {
			t.Errorf("Residual of %v, %d: %v; want %v", c.l, c.order, got, c.want)
		}
		if got := Restore(c.want, c.order); !slices.Equal(got, c.l) {
			t.Errorf("Restore of %v, %d: %v; want %v", c.want, c.order, got, c.l)
		}
	}
}

func TestResidualOfNothing(t *testing.T) { // P11.1, R3: nil and an empty list are the same
	for _, none := range [][]int32{nil, {}, make([]int32, 0, 9)} {
		for order := -2; order < 6; order++ {
			if l := Residual(none, order); len(l) != 0 {
				t.Errorf("Residual: %v; want nothing", l)
			}
			if l := Restore(none, order); len(l) != 0 {
				t.Errorf("Restore: %v; want nothing", l)
			}
		}
	}
}

func TestOrdersThatAreNone(t *testing.T) { // P11.1: below 0 counts as 0, above MaxOrder as that
	for seed := range 60 {
		l := luck(seed)
		row := l.numbers(l.below(40), seed%kinds)
		for counts, orders := range map[int][]int{
			0: {-1, -2, -3, -4, math.MinInt8, math.MinInt32, math.MinInt32 - 1, math.MinInt},
			3: {4, 5, 6, 7, 8, 255, 256, 1 << 32, 1<<32 + 1, math.MaxInt32, math.MaxInt},
		} {
			for _, order := range orders {
				if got, want := Residual(row, order), residualByWords(row, counts); !slices.Equal(got, want) {
					t.Errorf("Residual of %v, %d: %v; want %v", row, order, got, want)
				}
				if got, want := Restore(row, order), restoreByWords(row, counts); !slices.Equal(got, want) {
					t.Errorf("Restore of %v, %d: %v; want %v", row, order, got, want)
				}
			}
		}
	}
}

func TestResidualOfEnds(t *testing.T) { // P11.1, R7: what is guessed, and what is left, goes round
	for n := range 4 {
		for _, row := range rows(n) {
			for order := range 4 {
				hold(t, row, order)
			}
		}
	}
}

func TestResidualOfAny(t *testing.T) { // P11.1, what follows
	for seed := range 700 {
		l := luck(seed)
		row := l.numbers(l.below(200), seed%kinds)
		for order := range 4 {
			hold(t, row, order)
		}
	}
}

func TestResidualIsTakenAwayOneByOne(t *testing.T) { // P11.1: each order is what order 1 leaves of the one below
	for seed := range 200 {
		l := luck(seed)
		row := l.numbers(l.below(100), seed%kinds)
		want := row
		for order := 1; order < 4; order++ {
			want = Residual(want, 1)
			if got := Residual(row, order); !slices.Equal(got, want) {
				t.Fatalf("seed %d, %d: %v; want %v", seed, order, got, want)
			}
		}
	}
}

func TestResidualOfMany(t *testing.T) { // P11.1: no length is too great
	l := luck(1)
	for _, kind := range []int{2, 3, 6} {
		row := l.numbers(1<<20+1, kind)
		for order := range 4 {
			again(t, row, order)
		}
	}
}
