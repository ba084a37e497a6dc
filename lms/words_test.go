package lms

import "math/big"

// luck is a row of numbers that look like chance, and are the same each time.
type luck uint64

func (l *luck) below(n int) int {
	*l = *l*6364136223846793005 + 1442695040888963407
	return int(uint64(*l)>>33) % n
}

// kinds is how many there are of rows that luck tells.
const kinds = 8

// numbers are n of a kind: all one, near zero, of all, those at the ends, on a line, those of one sign, such as come again and again, or such as a sound has.
func (l *luck) numbers(n, kind int) []int32 {
	out := make([]int32, n)
	a, b, turn := l.any(), l.any(), 2+l.below(20)
	for i := range out {
		at := int32(i)
		switch kind {
		case 0:
			out[i] = a
		case 1:
			out[i] = int32(l.below(9) - 4)
		case 2:
			out[i] = l.any()
		case 3:
			out[i] = ends()[l.below(len(ends()))]
		case 4:
			out[i] = a + b*at
		case 5:
			out[i] = a | 1<<30 | int32(l.below(1<<16))
		case 6:
			out[i] = b % 100000 * (at%int32(turn) - int32(turn)/2)
		default:
			out[i] = wave(at, int32(turn)) + int32(l.below(200)-100)
		}
	}
	return out
}

// wave goes up and down on curves, at most 16,384 far from 0.
func wave(at, turn int32) int32 {
	half := turn * 8
	x := at % half
	y := 1 << 14 * x / half * 4 * (half - x) / half
	if at/half%2 == 1 {
		return -y
	}
	return y
}

func (l *luck) any() int32 {
	return int32(uint32(l.below(1<<16)<<16 | l.below(1<<16)))
}

// ends are numbers at which something begins, ends or goes round.
func ends() []int32 {
	return []int32{
		0, 1, -1, 2, -2,
		-1 << 31, -1<<31 + 1, 1<<31 - 1, 1<<31 - 2,
		-1 << 30, -1<<30 - 1, 1 << 30, 1<<30 - 1,
		-256, -255, 255, 256,
	}
}

// rows are all of so many ends.
func rows(n int) [][]int32 {
	if n == 0 {
		return [][]int32{nil}
	}
	var all [][]int32
	for _, row := range rows(n - 1) {
		for _, v := range ends() {
			all = append(all, append(row[:len(row):len(row)], v))
		}
	}
	return all
}

// round is v, as often as it takes 2^bits nearer, so that it is a number of so many bits.
func round(v *big.Int, bits uint) *big.Int {
	all := new(big.Int).Lsh(big.NewInt(1), bits)
	half := new(big.Int).Lsh(big.NewInt(1), bits-1)
	low := new(big.Int).Add(v, half)
	low.Mod(low, all) // never below 0
	return low.Sub(low, half)
}

// filterByWords is a filter as the promise's words say it, of numbers of any size: all that it was told, and a weight for each of the last eight.
type filterByWords struct {
	told    []int32 // the newest last
	weights [8]*big.Int
}

func newByWords() *filterByWords {
	w := &filterByWords{}
	for i := range w.weights {
		w.weights[i] = big.NewInt(0)
	}
	return w
}

// ahead is the number so many places ahead of the one to be guessed.
func (w *filterByWords) ahead(steps int) *big.Int {
	if steps > len(w.told) {
		return big.NewInt(0)
	}
	return big.NewInt(int64(w.told[len(w.told)-steps]))
}

func (w *filterByWords) guess() int32 {
	sum := new(big.Int)
	for i, weight := range w.weights {
		sum.Add(sum, new(big.Int).Mul(w.ahead(i+1), weight))
	}
	sum = round(sum, 64)
	down := new(big.Int).Sub(sum, new(big.Int).Mod(sum, big.NewInt(256)))
	return int32(round(down.Quo(down, big.NewInt(256)), 32).Int64())
}

// guessOf is what is guessed by the numbers and weights of f.
func guessOf(f *Filter) int32 {
	w := newByWords()
	for i, v := range f.numbers {
		w.told = append([]int32{v}, w.told...)
		w.weights[i].SetInt64(f.weights[i])
	}
	return w.guess()
}

// missed is v less the guess, going round.
func (w *filterByWords) missed(v int32) *big.Int {
	return round(new(big.Int).Sub(big.NewInt(int64(v)), big.NewInt(int64(w.guess()))), 32)
}

func (w *filterByWords) learn(v int32) {
	e := w.missed(v)
	for i, weight := range w.weights {
		n := w.ahead(i + 1)
		switch {
		case e.Sign() > 0 && n.Sign() > 0, e.Sign() < 0 && n.Sign() < 0:
			weight.Add(weight, big.NewInt(1))
		case e.Sign() > 0 && n.Sign() < 0, e.Sign() < 0 && n.Sign() > 0:
			weight.Sub(weight, big.NewInt(1))
		}
	}
	w.told = append(w.told, v)
}

// residualByWords is what Residual is, by the chapter's words.
func residualByWords(l []int32) []int32 {
	w := newByWords()
	out := make([]int32, 0, len(l))
	for _, v := range l {
		out = append(out, int32(w.missed(v).Int64()))
		w.learn(v)
	}
	return out
}

// restoreByWords finds the numbers one by one: each is the one that leaves what l tells.
func restoreByWords(l []int32) []int32 {
	w := newByWords()
	for _, left := range l {
		v := new(big.Int).Add(big.NewInt(int64(left)), big.NewInt(int64(w.guess())))
		w.learn(int32(round(v, 32).Int64()))
	}
	return w.told
}
