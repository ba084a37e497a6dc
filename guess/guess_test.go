package guess

import (
	"math"
	"testing"
)

func TestNext(t *testing.T) { // P5.1, example 1
	for _, c := range []struct {
		p         uint16
		bit, rate int
		want      uint16
	}{
		{32768, 1, 4, 34815},
		{32768, 0, 4, 30720},
		{34815, 1, 4, 36735},
		{32768, 1, 1, 49151},
		{32768, 0, 1, 16384},
		{32768, 1, 15, 32768}, // the way to go, 32,767, is less than 2^15
		{32767, 1, 15, 32768},
		{32768, 0, 15, 32767},
		{32767, 0, 15, 32767},
		{0, 1, 1, 32767},
		{0, 0, 1, 0},
		{1, 0, 1, 1},
		{2, 0, 1, 1},
		{15, 0, 4, 15},
		{16, 0, 4, 15},
		{65535, 1, 1, 65535},
		{65534, 1, 1, 65534},
		{65533, 1, 1, 65534},
		{65520, 1, 4, 65520},
		{65519, 1, 4, 65520},
		{65535, 0, 1, 32768},
		{65535, 0, 15, 65534},
	} {
		if got := Next(c.p, c.bit, c.rate); got != c.want {
			t.Errorf("Next(%d, %d, %d): %d; want %d", c.p, c.bit, c.rate, got, c.want)
		}
	}
}

func TestNextOfEachGuess(t *testing.T) { // P5.1: against the words of the promise
	for rate := -2; rate <= 18; rate++ {
		for p := range 65536 {
			for bit := range 2 {
				if got, want := Next(uint16(p), bit, rate), nextByWords(uint64(p), bit == 1, rate); uint64(got) != want {
					t.Fatalf("Next(%d, %d, %d): %d; want %d", p, bit, rate, got, want)
				}
			}
		}
	}
}

func TestNextOfOddRates(t *testing.T) { // P5.1: a rate that may not be
	for _, rate := range oddRates() {
		for _, p := range []uint16{0, 1, 2, 100, 32767, 32768, 32769, 65533, 65534, 65535} {
			for bit := range 2 {
				if got, want := Next(p, bit, rate), nextByWords(uint64(p), bit == 1, rate); uint64(got) != want {
					t.Errorf("Next(%d, %d, %d): %d; want %d", p, bit, rate, got, want)
				}
			}
		}
	}
}

func TestNextOfOddBits(t *testing.T) { // P5.1: each bit that is not 0 is a one
	for _, bit := range []int{math.MinInt, math.MinInt32, -256, -2, -1, 2, 3, 9, 256, 65536, math.MaxInt} {
		for rate := 1; rate <= 15; rate++ {
			for _, p := range []uint16{0, 100, 32768, 65535} {
				if got, want := Next(p, bit, rate), Next(p, 1, rate); got != want {
					t.Errorf("Next(%d, %d, %d): %d; want %d", p, bit, rate, got, want)
				}
			}
		}
	}
}

func TestChance(t *testing.T) { // P5.1, example 1
	for _, c := range []struct {
		p    uint16
		want int
	}{
		{0, 1}, {1, 1}, {15, 1}, {16, 1}, {31, 1}, {32, 2}, {47, 2}, {48, 3},
		{32767, 2047}, {32768, 2048}, {32783, 2048}, {32784, 2049},
		{65519, 4094}, {65520, 4095}, {65535, 4095},
	} {
		if got := Chance(c.p); got != c.want {
			t.Errorf("Chance(%d): %d; want %d", c.p, got, c.want)
		}
	}
}

func TestChanceOfEachGuess(t *testing.T) { // P5.1: each is one that a coder takes as it is
	for p := range 65536 {
		got := Chance(uint16(p))
		if want := chanceByWords(uint64(p)); got != want || got < 1 || got > 4095 {
			t.Fatalf("Chance(%d): %d; want %d", p, got, want)
		}
	}
}

func TestAgainAndAgainIsLikelier(t *testing.T) { // what follows
	for rate := 1; rate <= 15; rate++ {
		for _, p := range []uint16{0, 1, 5000, 32768, 60000, 65535} {
			up, down := p, p
			for range 1 << 17 {
				higher, lower := Next(up, 1, rate), Next(down, 0, rate)
				if higher < up || lower > down {
					t.Fatalf("from %d, rate %d: what comes again gets less likely: %d behind %d, %d behind %d", p, rate, higher, up, lower, down)
				}
				up, down = higher, lower
			}
			if left := 65535 - int(up); left>>rate != 0 {
				t.Errorf("from %d, rate %d: after many ones it is still %d below the greatest", p, rate, left)
			}
			if int(down)>>rate != 0 {
				t.Errorf("from %d, rate %d: after many zeros it is still %d", p, rate, down)
			}
		}
	}
}
