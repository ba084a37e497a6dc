package tracks

import (
	"math"
	"slices"
	"testing"

	"valise/api"
)

// hold fails unless x and y are turned, both ways, as the chapter's words say, and turned back.
func hold(t *testing.T, x, y []int32) {
	t.Helper()
	for name, call := range map[string]struct {
		there, back func(l, r []int32) ([]int32, []int32, api.Errno)
		words       func(l, r int32) (int32, int32)
	}{
		"Mid":   {Mid, Unmid, midByWords},
		"Unmid": {Unmid, Mid, unmidByWords},
	} {
		a, b, err := call.there(x, y)
		if err != api.OK || len(a) != len(x) || len(b) != len(x) {
			t.Fatalf("%s of %v, %v: %v, %v, error %d", name, x, y, a, b, err)
		}
		for i := range x {
			if c, d := call.words(x[i], y[i]); a[i] != c || b[i] != d {
				t.Fatalf("%s of %d, %d: %d, %d; want %d, %d", name, x[i], y[i], a[i], b[i], c, d)
			}
		}
		if c, d, err := call.back(a, b); err != api.OK || !slices.Equal(c, x) || !slices.Equal(d, y) {
			t.Fatalf("%s of %v, %v, turned back: %v, %v, error %d", name, x, y, c, d, err)
		}
	}
}

func TestMidOfKnown(t *testing.T) { // P14.2
	const least, most = math.MinInt32, math.MaxInt32
	for _, c := range []struct{ l, r, m, s int32 }{
		{5, 2, 3, 3}, // example 1
		{2, 5, 3, -3}, {0, 0, 0, 0}, {7, 7, 7, 0}, {-7, -7, -7, 0},
		{1, 0, 0, 1}, {0, 1, 0, -1}, {2, 0, 1, 2}, {0, 2, 1, -2}, {3, 0, 1, 3}, {0, 3, 1, -3},
		{-1, 0, -1, -1}, {0, -1, -1, 1}, {-3, 4, 0, -7}, {4, -3, 0, 7},
		{127, -128, -1, 255}, {-128, 127, -1, -255}, {32767, -32768, -1, 65535}, {-32768, 32767, -1, -65535},
		{most, most, most, 0}, {least, least, least, 0},
		{most, 0, 1<<30 - 1, most}, {0, most, 1<<30 - 1, -most}, {least, 0, -1 << 30, least},
		{0, least, 1 << 30, least},    // 2^31 apart: -2^31; and the middle is below the least
		{most, least, most, -1},       // 2^32 - 1; the middle is one below the least
		{least, most, most, 1},        // 1 - 2^32
		{most, -1, -1<<30 - 1, least}, // 2^31
		{-1, most, 1<<30 - 1, least},  // -2^31
		{-2, most, -1<<30 - 2, most},  // -2^31 - 1; the middle is above the most
		{most, -2, -1<<30 - 2, -most}, // 2^31 + 1
		{least, 1, 1 << 30, most},     // -2^31 - 1
		{1, least, 1 << 30, -most},    // 2^31 + 1; the middle is below the least
	} {
		m, s, err := Mid([]int32{c.l}, []int32{c.r})
		if err != api.OK || !slices.Equal(m, []int32{c.m}) || !slices.Equal(s, []int32{c.s}) {
			t.Errorf("Mid of %d, %d: %v, %v, error %d; want %d, %d", c.l, c.r, m, s, err, c.m, c.s)
		}
		l, r, err := Unmid([]int32{c.m}, []int32{c.s})
		if err != api.OK || !slices.Equal(l, []int32{c.l}) || !slices.Equal(r, []int32{c.r}) {
			t.Errorf("Unmid of %d, %d: %v, %v, error %d; want %d, %d", c.m, c.s, l, r, err, c.l, c.r)
		}
	}
}

func TestMidOfEnds(t *testing.T) { // P14.2: numbers go round at 2^32
	for _, x := range ends() {
		for _, y := range ends() {
			hold(t, []int32{x}, []int32{y})
		}
	}
}

func TestMidOfSmallNumbers(t *testing.T) { // P14.2: the half of an odd side is the lower one
	for x := int32(-40); x <= 40; x++ {
		for y := int32(-40); y <= 40; y++ {
			hold(t, []int32{x}, []int32{y})
		}
	}
}

func TestMidOfAny(t *testing.T) { // P14.2, what follows
	for seed := range 2000 {
		l := luck(seed)
		n := l.below(60)
		hold(t, l.numbers(n), l.numbers(n))
		hold(t, l.samples(n, 16), l.samples(n, 16))
	}
}

func TestMidOfSamples(t *testing.T) { // P14.2: the middle of two samples is one, too
	l := luck(4)
	for _, bits := range []int{8, 16} {
		m, _, err := Mid(l.samples(50000, bits), l.samples(50000, bits))
		if err != api.OK || !joinable(bits, m) {
			t.Errorf("%d bits: some middle is none, error %d", bits, err)
		}
	}
}

func TestMidOfNothing(t *testing.T) { // P14.2, R3: two lists of nothing have the same length
	for _, x := range [][]int32{nil, {}, make([]int32, 0, 9)} {
		for _, y := range [][]int32{nil, {}, make([]int32, 0, 9)} {
			for _, call := range turns() {
				if a, b, err := call(x, y); err != api.OK || len(a) != 0 || len(b) != 0 {
					t.Errorf("%v, %v, error %d; want nothing", a, b, err)
				}
			}
		}
	}
}

func TestMidRefuses(t *testing.T) { // P14.2, R4: of two lengths
	for n := range 12 {
		for m := range 12 {
			for name, call := range turns() {
				a, b, err := call(make([]int32, n, 20), make([]int32, m, 20))
				if n != m && (err != api.ErrArg || a != nil || b != nil) {
					t.Errorf("%s of %d and %d numbers: %v, %v, error %d; want error %d", name, n, m, a, b, err, api.ErrArg)
				}
			}
		}
	}
}

func TestMidOfOneTwice(t *testing.T) { // P14.2: both may be the same list
	x := []int32{5, -7, math.MaxInt32, math.MinInt32}
	hold(t, x, x)
	if m, s, err := Mid(x, x); err != api.OK || !slices.Equal(m, x) || !slices.Equal(s, make([]int32, 4)) {
		t.Errorf("%v, %v, error %d", m, s, err)
	}
}

func TestMidOfMany(t *testing.T) { // P14.2: no length is too great
	l := luck(5)
	x, y := l.numbers(1<<20+1), l.numbers(1<<20+1)
	m, s, err := Mid(x, y)
	a, b, fault := Unmid(m, s)
	if err != api.OK || fault != api.OK || !slices.Equal(a, x) || !slices.Equal(b, y) {
		t.Errorf("errors %d, %d, or other numbers come back", err, fault)
	}
}
