package lms

import (
	"math"
	"slices"
	"testing"
)

// told is a filter that has learnt l.
func told(l ...int32) *Filter {
	f := New()
	for _, v := range l {
		f.Learn(v)
	}
	return f
}

// check tells of a filter that has other weights, the one of the newest number first, or guesses another number than wanted.
func check(t *testing.T, f *Filter, guess int32, weights ...int64) {
	t.Helper()
	if got := f.weights[:]; !slices.Equal(got, weights) {
		t.Errorf("behind %v: the weights %v; want %v", f.numbers, got, weights)
	}
	if got := f.Guess(); got != guess {
		t.Errorf("behind %v: the guess %d; want %d", f.numbers, got, guess)
	}
}

func TestNew(t *testing.T) { // P12.1: all is 0 at first
	f := New()
	check(t, f, 0, 0, 0, 0, 0, 0, 0, 0, 0)
	if f.numbers != [8]int32{} {
		t.Errorf("the numbers %v", f.numbers)
	}
}

func TestNumbersComeInFront(t *testing.T) { // P12.1: the newest first, eight of them
	f := New()
	for _, c := range []struct {
		v    int32
		want [8]int32
	}{
		{5, [8]int32{5}},
		{-6, [8]int32{-6, 5}},
		{0, [8]int32{0, -6, 5}},
		{math.MinInt32, [8]int32{math.MinInt32, 0, -6, 5}},
		{8, [8]int32{8, math.MinInt32, 0, -6, 5}},
		{9, [8]int32{9, 8, math.MinInt32, 0, -6, 5}},
		{9, [8]int32{9, 9, 8, math.MinInt32, 0, -6, 5}},
		{1, [8]int32{1, 9, 9, 8, math.MinInt32, 0, -6, 5}},
		{2, [8]int32{2, 1, 9, 9, 8, math.MinInt32, 0, -6}},
		{3, [8]int32{3, 2, 1, 9, 9, 8, math.MinInt32, 0}},
	} {
		f.Learn(c.v)
		if f.numbers != c.want {
			t.Errorf("behind %d: %v; want %v", c.v, f.numbers, c.want)
		}
	}
}

func TestWeightsGoOneStep(t *testing.T) { // P12.1: up where what was missed and the number are of one sign, else down
	check(t, told(300), 0, 0, 0, 0, 0, 0, 0, 0, 0) // no number was there to weigh
	check(t, told(300, 300), 1, 1, 0, 0, 0, 0, 0, 0, 0)
	check(t, told(300, 300, 300), 3, 2, 1, 0, 0, 0, 0, 0, 0)
	check(t, told(300, 300, 300, -300), -3, 1, 0, -1, 0, 0, 0, 0, 0) // -600, shifted
	check(t, told(-300, -300), -2, 1, 0, 0, 0, 0, 0, 0, 0)
	check(t, told(300, -300), 1, -1, 0, 0, 0, 0, 0, 0, 0)
	check(t, told(-300, 300), -2, -1, 0, 0, 0, 0, 0, 0, 0)
	check(t, told(1, -2, 0, 3, -4, 5, -6, 0, 7), -1, -4, 0, 2, -3, 3, -1, -1, 1) // -72, shifted
}

func TestWeightsStay(t *testing.T) { // P12.1: where nothing was missed, or a number is 0
	check(t, told(0), 0, 0, 0, 0, 0, 0, 0, 0, 0)
	check(t, told(0, 5), 0, 0, 0, 0, 0, 0, 0, 0, 0)
	check(t, told(5, 0), 0, 0, 0, 0, 0, 0, 0, 0, 0)
	check(t, told(5, 0, 7), 0, 0, 1, 0, 0, 0, 0, 0, 0)
	check(t, told(300, 300, 1), 0, 1, 0, 0, 0, 0, 0, 0, 0)
	check(t, told(300, 300, 300, 3), 1, 2, 1, 0, 0, 0, 0, 0, 0)
}

func TestWeightsStepByTheSignAlone(t *testing.T) { // P12.1: however much was missed
	const least, most = math.MinInt32, math.MaxInt32
	for _, number := range []int32{least, least + 1, -256, -1, 0, 1, 255, most} {
		for _, v := range []int32{least, least + 1, -256, -1, 0, 1, 255, most} {
			want := int64(0)
			switch {
			case number < 0 && v < 0, number > 0 && v > 0:
				want = 1
			case number < 0 && v > 0, number > 0 && v < 0:
				want = -1
			}
			if f := told(number, v); f.weights != [8]int64{want} {
				t.Errorf("behind %d and %d: the weights %v", number, v, f.weights)
			}
		}
	}
}

func TestMissedGoesRound(t *testing.T) { // P12.1: e has 32 bits
	const least, most = math.MinInt32, math.MaxInt32
	for _, c := range []struct {
		guess, v int32
		want     int64 // the weight of the newest number, which was 256, so that it was guessed as it is
	}{
		{most, least, 257},       // 1
		{most, -2, 257},          // -2^31 - 1: 2^31 - 1
		{most, -1, 255},          // -2^31, which is below 0
		{most, 0, 255},           // -2^31 + 1
		{most, most, 256},        // 0
		{least, most, 257},       // -1
		{least, 0, 257},          // 2^31: -2^31
		{least, -1, 255},         // 2^31 - 1
		{least, least, 256},      // 0
		{1, least, 257},          // -2^31 - 1: 2^31 - 1
		{-1, most, 257},          // 2^31: -2^31
		{1 << 30, -1 << 30, 255}, // -2^31
		{-1 << 30, 1 << 30, 257}, // 2^31: -2^31
	} {
		var f Filter
		f.numbers[0], f.weights[0] = c.guess, 256
		if got := f.Guess(); got != c.guess {
			t.Fatalf("the guess %d; want %d", got, c.guess)
		}
		if f.Learn(c.v); f.weights != [8]int64{c.want} {
			t.Errorf("guessed %d, came %d: the weights %v; want %d", c.guess, c.v, f.weights, c.want)
		}
	}
}

func TestGuessIsShifted(t *testing.T) { // P12.1: the sum, not each, and downwards
	for _, c := range []struct {
		numbers [8]int32
		weights [8]int64
		want    int32
	}{
		{[8]int32{255}, [8]int64{1}, 0}, {[8]int32{256}, [8]int64{1}, 1}, {[8]int32{511}, [8]int64{1}, 1}, {[8]int32{512}, [8]int64{1}, 2},
		{[8]int32{-1}, [8]int64{1}, -1}, {[8]int32{1}, [8]int64{-1}, -1}, {[8]int32{-1}, [8]int64{-1}, 0},
		{[8]int32{-256}, [8]int64{1}, -1}, {[8]int32{-257}, [8]int64{1}, -2}, {[8]int32{256}, [8]int64{-1}, -1},
		{[8]int32{128, 128}, [8]int64{1, 1}, 1}, {[8]int32{-1, 1}, [8]int64{1, 1}, 0}, {[8]int32{-1, -1}, [8]int64{1, 1}, -1},
		{[8]int32{1, 10, 100, 1000, 10000, 100000, 1000000, 10000000}, [8]int64{256, 512, 768, 1024, 1280, 1536, 1792, 2048}, 87654321},
		{[8]int32{0, 0, 0, 0, 0, 0, 0, 300}, [8]int64{9, 9, 9, 9, 9, 9, 9, 256}, 300},
	} {
		f := Filter{past{c.numbers, c.weights}}
		if got := f.Guess(); got != c.want {
			t.Errorf("%v by %v: %d; want %d", c.numbers, c.weights, got, c.want)
		}
	}
}

func TestGuessGoesRound(t *testing.T) { // P12.1: the sum has 64 bits, the guess its lowest 32 behind the shift
	const least, most = math.MinInt32, math.MaxInt32
	for _, c := range []struct {
		numbers [8]int32
		weights [8]int64
		want    int32
	}{
		{[8]int32{most}, [8]int64{256}, most}, {[8]int32{least}, [8]int64{256}, least},
		{[8]int32{least}, [8]int64{-256}, least}, // 2^31
		{[8]int32{most, most}, [8]int64{256, 256}, -2}, {[8]int32{least, least}, [8]int64{256, 256}, 0},
		{[8]int32{most, 1}, [8]int64{256, 256}, least}, {[8]int32{least, -1}, [8]int64{256, 256}, most},
		{[8]int32{1 << 24}, [8]int64{256}, 1 << 24}, {[8]int32{1 << 24}, [8]int64{1 << 15}, least}, {[8]int32{1 << 24}, [8]int64{1 << 16}, 0},
		{[8]int32{least, least, least, least, least, least, least, least}, [8]int64{most, most, most, most, most, most, most, most}, 1 << 26}, // -2^65 and 2^34
		{[8]int32{least, least, least, least, 1 << 8}, [8]int64{-most, -most, -most, -most, 7}, 7 - 1<<25},                                    // 2^64, less 2^33
	} {
		f := Filter{past{c.numbers, c.weights}}
		if got, want := f.Guess(), guessOf(&f); got != c.want || got != want {
			t.Errorf("%v by %v: %d; want %d, by words %d", c.numbers, c.weights, got, c.want, want)
		}
	}
}

func TestGuessOfAny(t *testing.T) { // P12.1: whatever numbers and weights there are
	for seed := range 20000 {
		var f Filter
		l := luck(seed)
		for i := range f.numbers {
			f.numbers[i] = l.numbers(1, seed%2+2)[0]
			f.weights[i] = []int64{int64(l.any()), int64(l.below(600) - 300), math.MaxInt32, -math.MaxInt32, 0}[l.below(5)]
		}
		if got, want := f.Guess(), guessOf(&f); got != want {
			t.Fatalf("%v by %v: %d; want %d", f.numbers, f.weights, got, want)
		}
	}
}

func TestFilterOfAny(t *testing.T) { // P12.1: against the words of the promise
	for seed := range 400 {
		l := luck(seed)
		f, w := New(), newByWords()
		for _, v := range l.numbers(l.below(200), seed%kinds) {
			if got, want := f.Guess(), w.guess(); got != want {
				t.Fatalf("seed %d, behind %v: the guess %d; want %d", seed, w.told, got, want)
			}
			f.Learn(v)
			w.learn(v)
			for i, want := range w.weights {
				if got := f.weights[i]; got != want.Int64() {
					t.Fatalf("seed %d, behind %v: the weight %d is %d; want %d", seed, w.told, i, got, want)
				}
			}
		}
	}
}

func TestFilterComesNearer(t *testing.T) { // P12.1: of ones it guesses none, until the weights are more than 255 together
	up, down := New(), New()
	for n := range 100 {
		want := int32(0)
		if n >= 37 { // 28 of the first eight, then eight of each: 260 of 37
			want = 1
		}
		if got := up.Guess(); got != want {
			t.Errorf("behind %d ones: %d; want %d", n, got, want)
		}
		up.Learn(1)
		want = 0
		if n >= 2 { // the shift goes down
			want = -1
		}
		if got := down.Guess(); got != want {
			t.Errorf("behind %d times -1: %d; want %d", n, got, want)
		}
		down.Learn(-1)
	}
	check(t, up, 1, 36, 35, 34, 33, 32, 31, 30, 29)
	check(t, down, -1, 1, 0, 0, 0, 0, 0, 0, 0)
}

func TestAskingTurnsNothing(t *testing.T) { // P12.1
	f := told(300, 300, 300)
	before := *f
	for range 5 {
		if got := f.Guess(); got != 3 || *f != before {
			t.Fatalf("asked once more: %d, %v", got, *f)
		}
	}
}

func TestNilFilter(t *testing.T) { // P12.1, R1
	var none *Filter
	for _, v := range ends() {
		none.Learn(v)
		if got := none.Guess(); got != 0 {
			t.Errorf("nil, behind %d: %d", v, got)
		}
	}
}

func TestZeroFilter(t *testing.T) { // R1: one that New has not made is as one that it has
	for seed := range kinds {
		var zero Filter
		l, f := luck(seed), New()
		for _, v := range l.numbers(100, seed) {
			zero.Learn(v)
			if f.Learn(v); zero != *f || zero.Guess() != f.Guess() {
				t.Fatalf("kind %d: %v; want %v", seed, zero, *f)
			}
		}
	}
}

func TestFiltersSideBySide(t *testing.T) { // R2: one hangs on no other
	a, b := New(), New()
	a.Learn(1000)
	a.Learn(1000)
	check(t, b, 0, 0, 0, 0, 0, 0, 0, 0, 0)
	check(t, New(), 0, 0, 0, 0, 0, 0, 0, 0, 0)
	x := *a // a copy is one of its own
	a.Learn(1000)
	check(t, &x, 3, 1, 0, 0, 0, 0, 0, 0, 0)
	x.Learn(-1000)
	check(t, a, 11, 2, 1, 0, 0, 0, 0, 0, 0)
}
