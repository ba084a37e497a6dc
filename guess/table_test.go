package guess

import (
	"math"
	"slices"
	"sync"
	"testing"
)

// chances are all that a table tells.
func chances(x *Table) []int {
	var all []int
	for i := range x.Len() {
		all = append(all, x.At(i))
	}
	return all
}

func TestNew(t *testing.T) { // P5.2
	for _, c := range []struct{ n, want int }{
		{1, 1}, {2, 2}, {3, 3}, {256, 256}, {1000, 1000}, {65535, 65535}, {65536, 65536},
		{0, 1}, {-1, 1}, {-4, 1}, {-65536, 1}, {math.MinInt, 1},
		{65537, 65536}, {1 << 20, 65536}, {math.MaxInt32, 65536}, {math.MaxInt, 65536},
	} {
		x := New(c.n)
		if x.Len() != c.want {
			t.Errorf("New(%d): Len %d; want %d", c.n, x.Len(), c.want)
		}
		for i := range c.want {
			if p := x.row[i]; p != 32768 || x.At(i) != 2048 {
				t.Fatalf("New(%d): the guess at %d is %d, its chance %d", c.n, i, p, x.At(i))
			}
		}
	}
}

func TestLearn(t *testing.T) { // P5.2
	x := New(4)
	for _, c := range []struct{ i, bit, rate, want int }{
		{0, 1, 4, 2175}, // 34815
		{0, 1, 4, 2295}, // 36735
		{1, 0, 4, 1920}, // 30720
		{2, 1, 1, 3071}, // 49151
		{2, 9, 0, 3583}, // 57343
		{3, 0, -7, 1024},
		{3, 0, 1, 512},
		{3, 1, 99, 512}, // 8193
		{2, -1, 1, 3839},
		{2, math.MinInt, math.MinInt, 3967},
		{2, 0, math.MaxInt, 3967},
	} {
		x.Learn(c.i, c.bit, c.rate)
		if got := x.At(c.i); got != c.want {
			t.Errorf("after Learn(%d, %d, %d): %d; want %d", c.i, c.bit, c.rate, got, c.want)
		}
	}
	if got, want := chances(x), []int{2295, 1920, 3967, 512}; !slices.Equal(got, want) {
		t.Errorf("all of them: %v; want %v", got, want)
	}
}

func TestLearnTurnsOneAlone(t *testing.T) { // P5.2
	for _, n := range []int{1, 2, 5, 300} {
		for i := range n {
			x := New(n)
			x.Learn(i, 1, 4)
			want := slices.Repeat([]int{2048}, n)
			want[i] = 2175
			if got := chances(x); !slices.Equal(got, want) {
				t.Fatalf("New(%d), Learn at %d: %v", n, i, got)
			}
		}
	}
}

func TestPlacesGoRound(t *testing.T) { // P5.2: i counts modulo n, as it is from 0 on
	for _, c := range []struct{ n, i, want int }{
		{3, 0, 0}, {3, 2, 2}, {3, 3, 0}, {3, 4, 1}, {3, 5, 2}, {3, 300, 0},
		{3, -1, 2}, {3, -2, 1}, {3, -3, 0}, {3, -4, 2}, {3, -6, 0},
		{1, 7, 0}, {1, -7, 0}, {1, math.MaxInt, 0}, {1, math.MinInt, 0},
		{256, -1, 255}, {256, 256, 0}, {256, math.MaxInt, 255}, {256, math.MinInt, 0}, {256, math.MinInt + 1, 1},
		{7, math.MaxInt, math.MaxInt % 7}, {7, math.MinInt, (math.MinInt%7 + 7) % 7},
		{65536, 65536, 0}, {65536, 65535, 65535}, {65536, -1, 65535}, {65536, -65536, 0}, {65536, -65537, 65535},
		{65535, 65535, 0}, {65535, -1, 65534}, {65535, math.MaxInt, math.MaxInt % 65535},
		{1 << 20, 65536, 0}, {1 << 20, 1 << 19, 0}, {1 << 20, -1, 65535}, // modulo the table's own length
		{-9, 5, 0},
	} {
		x := New(c.n)
		x.Learn(c.i, 1, 4)
		if x.At(c.want) != 2175 || x.At(c.i) != 2175 {
			t.Errorf("New(%d): Learn at %d turns another than that at %d", c.n, c.i, c.want)
		}
		x.Learn(c.want, 0, 1)
		if got := x.At(c.i); got != 1088 { // 17408
			t.Errorf("New(%d): At(%d): %d, and not what is at %d", c.n, c.i, got, c.want)
		}
	}
}

func TestTableOfAny(t *testing.T) { // P5.1, P5.2: against the words of the promises
	for seed := range 300 {
		l := luck(seed)
		n := []int{1, 2, 3, 16, 1 + l.below(40), 256, 65535, 65536, l.any() % 100000}[l.below(9)]
		x, w := New(n), newByWords(n)
		for range 600 {
			i, rate := l.any(), []int{l.below(16), 4, 1, l.any()}[l.below(4)]
			if l.below(2) == 0 {
				i = l.below(8) // again and again
			}
			bit := []int{0, 0, 1, 1, l.any()}[l.below(5)]
			x.Learn(i, bit, rate)
			w.learn(i, bit, rate)
			for _, i := range []int{i, l.any(), l.below(8)} {
				if _, p := w.at(i); x.At(i) != chanceByWords(p) {
					t.Fatalf("seed %d: At(%d): %d; want %d", seed, i, x.At(i), chanceByWords(p))
				}
			}
		}
		if x.Len() != w.n {
			t.Fatalf("seed %d: Len %d; want %d", seed, x.Len(), w.n)
		}
		for i, p := range x.row {
			if _, want := w.at(i); uint64(p) != want {
				t.Fatalf("seed %d: the guess at %d: %d; want %d", seed, i, p, want)
			}
		}
	}
}

func TestAskingTurnsNothing(t *testing.T) { // P5.2
	x := New(5)
	x.Learn(2, 1, 3)
	for range 3 {
		for i := -10; i < 10; i++ {
			x.At(i)
		}
		if got := chances(x); x.Len() != 5 || !slices.Equal(got, []int{2048, 2048, 2303, 2048, 2048}) {
			t.Fatalf("asked once more: %v", got)
		}
	}
}

func TestTableLearnsWhatComesAgain(t *testing.T) { // what follows
	for rate := 1; rate <= 10; rate++ {
		x := New(2)
		for range 20000 {
			one, zero := x.At(0), x.At(1)
			x.Learn(0, 1, rate)
			x.Learn(1, 0, rate)
			if x.At(0) < one || x.At(1) > zero {
				t.Fatalf("rate %d: what comes again gets less likely", rate)
			}
		}
		stop := 1 << rate // within less than that, a guess stays
		if want := (65536 - stop) / 16; x.At(0) != want {
			t.Errorf("rate %d: a one that comes always has the chance %d; want %d", rate, x.At(0), want)
		}
		if want := max((stop-1)/16, 1); x.At(1) != want {
			t.Errorf("rate %d: a one that never comes has the chance %d; want %d", rate, x.At(1), want)
		}
	}
}

func TestNilTable(t *testing.T) { // P5.2, R1
	var none *Table
	for _, i := range []int{math.MinInt, -1, 0, 1, math.MaxInt} {
		none.Learn(i, 1, 4)
		none.Learn(i, i, i)
		if none.At(i) != 0 || none.Len() != 0 {
			t.Errorf("nil: At(%d): %d, Len %d", i, none.At(i), none.Len())
		}
	}
}

func TestZeroTable(t *testing.T) { // R1: one that New has not made
	var zero Table
	for _, i := range []int{math.MinInt, -1, 0, 1, math.MaxInt} {
		zero.Learn(i, 1, 4)
		if zero.At(i) != 0 || zero.Len() != 0 {
			t.Errorf("zero: At(%d): %d, Len %d", i, zero.At(i), zero.Len())
		}
	}
}

func TestTablesSideBySide(t *testing.T) { // R2: one hangs on no other
	a, b := New(3), New(3)
	a.Learn(1, 1, 1)
	if a.At(1) != 3071 || b.At(1) != 2048 || New(3).At(1) != 2048 {
		t.Error("a table learns what another is told")
	}
	var join sync.WaitGroup
	for seed := range 8 {
		join.Go(func() {
			l := luck(seed)
			x, w := New(50), newByWords(50)
			for range 5000 {
				i, bit, rate := l.below(50), l.below(2), l.below(17)
				x.Learn(i, bit, rate)
				w.learn(i, bit, rate)
				if _, p := w.at(i); x.At(i) != chanceByWords(p) {
					t.Errorf("seed %d: it hangs on what goes on beside it", seed)
					return
				}
			}
		})
	}
	join.Wait()
}
