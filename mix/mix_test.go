package mix

import "testing"

func TestSquash(t *testing.T) { // P6.1, example 1
	for _, c := range []struct{ d, want int }{
		{0, 2048}, {512, 3328}, {-512, 768},
		{1, 2052}, {-1, 2044}, // 4.99 towards 0
		{2, 2057}, {-2, 2039},
		{256, 2901}, {-256, 1195},
		{2043, 4094}, {2044, 4095}, {2045, 4095}, {2046, 4095}, {2047, 4095},
		{-2043, 2}, {-2044, 1}, {-2045, 1}, {-2046, 1}, {-2047, 1},
	} {
		if got := Squash(c.d); got != c.want {
			t.Errorf("Squash(%d): %d; want %d", c.d, got, c.want)
		}
	}
}

func TestSquashOfEach(t *testing.T) { // P6.1: against the words of the promise
	for d := -10000; d <= 10000; d++ {
		if got, want := Squash(d), squashByWords(d); got != want || got < 1 || got > 4095 {
			t.Fatalf("Squash(%d): %d; want %d", d, got, want)
		}
		if Squash(d) < Squash(d-1) || Squash(d)+Squash(-d) != 4096 {
			t.Fatalf("Squash(%d): %d, behind %d, over against %d", d, Squash(d), Squash(d-1), Squash(-d))
		}
	}
}

func TestSquashOfOddNumbers(t *testing.T) { // P6.1: what is out of bounds counts as the bound
	for _, d := range oddNumbers() {
		want := 4095
		if d < 0 {
			want = 1
		}
		if got := Squash(d); got != want {
			t.Errorf("Squash(%d): %d; want %d", d, got, want)
		}
	}
}

func TestStretch(t *testing.T) { // P6.1, example 1
	for _, c := range []struct{ p, want int }{
		{2048, 0}, {2049, 1}, {2052, 1}, {2053, 2}, {2057, 2}, {2058, 3},
		{2047, 0}, {2046, 0}, {2045, 0}, {2044, -1}, {2043, -1}, {2039, -2},
		{3328, 512}, {3329, 513}, {768, -512},
		{1, -2047}, {2, -2043}, {4094, 2039}, {4095, 2044},
	} {
		want := stretchByWords(c.p)
		if got := Stretch(c.p); got != want || got != c.want {
			t.Errorf("Stretch(%d): %d; want %d, by words %d", c.p, got, c.want, want)
		}
	}
}

func TestStretchOfEach(t *testing.T) { // P6.1: against the words of the promise
	for p := -10; p <= 4110; p++ {
		if got, want := Stretch(p), stretchByWords(p); got != want {
			t.Fatalf("Stretch(%d): %d; want %d", p, got, want)
		}
	}
}

func TestStretchOfOddNumbers(t *testing.T) { // P6.1: what is out of bounds counts as the bound
	for _, p := range oddNumbers() {
		if p > 0 && p < 4096 {
			continue
		}
		want := Stretch(4095)
		if p < 0 {
			want = Stretch(1)
		}
		if got := Stretch(p); got != want {
			t.Errorf("Stretch(%d): %d; want %d", p, got, want)
		}
	}
	if Stretch(0) != -2047 || Stretch(4096) != 2044 {
		t.Errorf("Stretch(0): %d, Stretch(4096): %d", Stretch(0), Stretch(4096))
	}
}

func TestSquashTurnsStretchBack(t *testing.T) { // P6.1: as near as there is a number for it
	for p := 1; p <= 4095; p++ {
		d := Stretch(p)
		if d < -2047 || d > 2047 || Squash(d) < p || d > -2047 && Squash(d-1) >= p {
			t.Fatalf("Stretch(%d): %d, of which Squash is %d", p, d, Squash(d))
		}
		if far := Squash(d) - p; far > 4 {
			t.Fatalf("Squash of Stretch(%d) is %d off", p, far)
		}
	}
}
