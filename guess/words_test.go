package guess

import (
	"math"
)

// luck is a row of numbers that look like chance, and are the same each time.
type luck uint64

func (l *luck) below(n int) int {
	*l = *l*6364136223846793005 + 1442695040888963407
	return int(uint64(*l)>>33) % n
}

// any is a number, the edges of what numbers there are more often than others.
func (l *luck) any() int {
	return []int{math.MinInt, math.MinInt + 1, -1, 0, 1, 1 << 16, math.MaxInt - 1, math.MaxInt, l.below(1 << 20), -l.below(1 << 20)}[l.below(10)]
}

// oddRates are rates that may not be, and those at the bounds.
func oddRates() []int {
	return []int{math.MinInt, math.MinInt32, -65535, -16, -15, -1, 0, 1, 2, 14, 15, 16, 17, 31, 32, 63, 64, 65, 65536, math.MaxInt32, math.MaxInt}
}

// nextByWords is Next as the promise's words say it, in numbers of 64 bits, with divisions for the shifts.
func nextByWords(p uint64, one bool, rate int) uint64 {
	if rate < 1 {
		rate = 1
	}
	if rate > 15 {
		rate = 15
	}
	parts := uint64(1)
	for range rate {
		parts *= 2
	}
	if one {
		return p + (65535-p)/parts
	}
	return p - p/parts
}

// chanceByWords is Chance as the promise's words say it.
func chanceByWords(p uint64) int {
	if p/16 < 1 {
		return 1
	}
	return int(p / 16)
}

// tableByWords is a table as the promise's words say it: what was not learnt is not there.
type tableByWords struct {
	n       int
	guesses map[int]uint64
}

func newByWords(n int) *tableByWords {
	if n < 1 {
		n = 1
	}
	if n > 65536 {
		n = 65536
	}
	return &tableByWords{n, map[int]uint64{}}
}

// at is the guess, and its place: i less the greatest multiple of n that is not above it.
func (w *tableByWords) at(i int) (int, uint64) {
	place := (i%w.n + w.n) % w.n
	if p, ok := w.guesses[place]; ok {
		return place, p
	}
	return place, 32768
}

func (w *tableByWords) learn(i, bit, rate int) {
	place, p := w.at(i)
	w.guesses[place] = nextByWords(p, bit != 0, rate)
}
