package lms

import (
	"math"
	"slices"
	"testing"
)

// hold tells of a row that is not turned, or not turned back, as it should be.
func hold(t *testing.T, l []int32) {
	t.Helper()
	if got, want := Residual(l), residualByWords(l); !slices.Equal(got, want) {
		t.Fatalf("Residual of %v: %v; want %v", l, got, want)
	}
	if got, want := Restore(l), restoreByWords(l); !slices.Equal(got, want) {
		t.Fatalf("Restore of %v: %v; want %v", l, got, want)
	}
	again(t, l)
}

// again tells of a row that does not come out as it went in.
func again(t *testing.T, l []int32) {
	t.Helper()
	if got := Restore(Residual(l)); !slices.Equal(got, l) {
		t.Fatalf("restored: %v; want %v", got, l)
	}
	if got := Residual(Restore(l)); !slices.Equal(got, l) {
		t.Fatalf("taken away again: %v; want %v", got, l)
	}
}

func TestResidualOfKnown(t *testing.T) { // P12.2
	const least, most = math.MinInt32, math.MaxInt32
	for _, c := range []struct{ l, want []int32 }{
		{[]int32{1, 1}, []int32{1, 1}}, // example 1
		{[]int32{7}, []int32{7}}, {[]int32{least}, []int32{least}}, {[]int32{most}, []int32{most}},
		{[]int32{0, 0, 0}, []int32{0, 0, 0}},
		{[]int32{300, 300, 300, -300, 5}, []int32{300, 300, 299, -303, 8}},
		{[]int32{-1, -1, -1, -1}, []int32{-1, -1, 0, 0}},
		{[]int32{1, -2, 0, 3, -4, 5, -6, 0, 7, 0}, []int32{1, -2, 0, 3, -3, 5, -5, 0, 7, 1}},
		{[]int32{most, most, least}, []int32{most, most, 1<<31 - 1<<23 + 1}},     // 2^23 - 1 is guessed
		{[]int32{least, least, most}, []int32{least, least, -1<<31 + 1<<23 - 1}}, // -2^23
	} {
		if got := Residual(c.l); !slices.Equal(got, c.want) {
			t.Errorf("Residual of %v: %v; want %v", c.l, got, c.want)
		}
		if got := Restore(c.want); !slices.Equal(got, c.l) {
			t.Errorf("Restore of %v: %v; want %v", c.want, got, c.l)
		}
	}
}

func TestResidualOfNothing(t *testing.T) { // P12.2, R3: nil and an empty list are the same
	for _, none := range [][]int32{nil, {}, make([]int32, 0, 9)} {
		if l := Residual(none); len(l) != 0 {
			t.Errorf("Residual: %v; want nothing", l)
		}
		if l := Restore(none); len(l) != 0 {
			t.Errorf("Restore: %v; want nothing", l)
		}
	}
}

func TestResidualIsWhatAFilterMisses(t *testing.T) { // P12.2
	for seed := range 400 {
		l := luck(seed)
		row := l.numbers(l.below(300), seed%kinds)
		f, left := New(), Residual(row)
		for i, v := range row {
			if got, want := left[i], v-f.Guess(); got != want {
				t.Fatalf("seed %d, the number %d of %v: %d; want %d", seed, i, row, got, want)
			}
			f.Learn(v)
		}
	}
}

func TestResidualOfEnds(t *testing.T) { // P12.2, what follows
	for n := range 4 {
		for _, row := range rows(n) {
			hold(t, row)
		}
	}
}

func TestResidualOfAny(t *testing.T) { // P12.2, what follows
	for seed := range 400 {
		l := luck(seed)
		hold(t, l.numbers(l.below(200), seed%kinds))
	}
}

func TestResidualOfFront(t *testing.T) { // P12.2: what is left of a number hangs on those ahead of it alone
	for seed := range 4 * kinds {
		l := luck(seed)
		row := l.numbers(60, seed%kinds)
		left, whole := Residual(row), Restore(row)
		for n := range row {
			if !slices.Equal(Residual(row[:n]), left[:n]) || !slices.Equal(Restore(row[:n]), whole[:n]) {
				t.Fatalf("seed %d: of %d of %v, something else", seed, n, row)
			}
		}
	}
}

func TestResidualOfMany(t *testing.T) { // P12.2: no length is too great
	l := luck(1)
	for kind := range kinds {
		again(t, l.numbers(1<<20+1, kind))
	}
}

func TestResidualGetsLess(t *testing.T) { // P12.2: of what goes on as it was, less and less is left
	for seed := range 20 {
		l := luck(seed)
		row := l.numbers(4000, 7)
		was, first, last := amount(row[:1000]), amount(Residual(row)[:1000]), amount(Residual(row)[3000:])
		if first >= was || last >= was/2 {
			t.Errorf("seed %d: of %d, at first %d is left, at last %d", seed, was, first, last)
		}
	}
}

// amount is how far from 0 all of l are together.
func amount(l []int32) int64 {
	var sum int64
	for _, v := range l {
		sum += max(int64(v), -int64(v))
	}
	return sum
}
