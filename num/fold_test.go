package num

import (
	"math"
	"testing"
)

func TestFold(t *testing.T) { // P2.1
	for _, c := range []struct {
		v int64
		u uint64
	}{
		{0, 0}, {-1, 1}, {1, 2}, {-2, 3}, {2, 4}, {63, 126}, {-64, 127}, {64, 128}, {-65, 129},
		{1 << 31, 1 << 32}, {-1 << 31, 1<<32 - 1},
		{1<<62 - 1, 1<<63 - 2}, {-1 << 62, 1<<63 - 1}, {1 << 62, 1 << 63}, {-1<<62 - 1, 1<<63 + 1},
		{math.MaxInt64 - 1, math.MaxUint64 - 3}, {math.MinInt64 + 1, math.MaxUint64 - 2},
		{math.MaxInt64, math.MaxUint64 - 1}, {math.MinInt64, math.MaxUint64},
	} {
		if got := Fold(c.v); got != c.u {
			t.Errorf("Fold(%d): %d; want %d", c.v, got, c.u)
		}
		if got := Unfold(c.u); got != c.v {
			t.Errorf("Unfold(%d): %d; want %d", c.u, got, c.v)
		}
	}
}

func TestFoldBothWays(t *testing.T) { // P2.1: each number is the Fold of just one
	for u := range uint64(5000) {
		for _, u := range []uint64{u, math.MaxUint64 - u, 1<<63 - u, 1<<63 + u} {
			if got := Fold(Unfold(u)); got != u {
				t.Fatalf("Fold(Unfold(%d)): %d", u, got)
			}
		}
	}
	for v := range int64(5000) {
		for _, v := range []int64{v, -v, math.MaxInt64 - v, math.MinInt64 + v} {
			if got := Unfold(Fold(v)); got != v {
				t.Fatalf("Unfold(Fold(%d)): %d", v, got)
			}
		}
	}
}
