package fixed

import "math/big"

// luck is a row of numbers that look like chance, and are the same each time.
type luck uint64

func (l *luck) below(n int) int {
	*l = *l*6364136223846793005 + 1442695040888963407
	return int(uint64(*l)>>33) % n
}

// kinds is how many there are of rows that luck tells.
const kinds = 7

// numbers are n of a kind: all one, near zero, of all, those at the ends, on a line, on a curve, or on a curve with some noise.
func (l *luck) numbers(n, kind int) []int32 {
	out := make([]int32, n)
	a, b, c := l.any(), l.any(), l.any()
	for i := range out {
		at := int32(i)
		switch kind {
		case 0:
			out[i] = a
		case 1:
			out[i] = int32(l.below(9) - 4)
		case 2:
			out[i] = l.any()
		case 3:
			out[i] = ends()[l.below(len(ends()))]
		case 4:
			out[i] = a + b*at
		case 5:
			out[i] = a + b*at + c*at*at
		default:
			out[i] = a%1000 + b%100*at + c%10*at*at + int32(l.below(5)-2)
		}
	}
	return out
}

func (l *luck) any() int32 {
	return int32(uint32(l.below(1<<16)<<16 | l.below(1<<16)))
}

// ends are numbers at which something begins, ends or goes round: zero, the halves and thirds of the way, and the ends of all.
func ends() []int32 {
	return []int32{
		0, 1, -1, 2, -3,
		-1 << 31, -1<<31 + 1, 1<<31 - 1, 1<<31 - 2,
		-1 << 30, -1<<30 - 1, 1 << 30, 1<<30 - 1,
		-715827883, -715827882, 715827882, 715827883,
	}
}

// rows are all of so many ends.
func rows(n int) [][]int32 {
	if n == 0 {
		return [][]int32{nil}
	}
	var all [][]int32
	for _, row := range rows(n - 1) {
		for _, v := range ends() {
			all = append(all, append(row[:len(row):len(row)], v))
		}
	}
	return all
}

// round is v, as often as it takes 2^32 nearer, so that it is a number of 32 bits.
func round(v *big.Int) int32 {
	whole, half := big.NewInt(1<<32), big.NewInt(1<<31)
	low := new(big.Int).Add(v, half)
	low.Mod(low, whole) // never below 0
	return int32(low.Sub(low, half).Int64())
}

// guessByWords is the chapter's guess of the number at place i, of any size.
func guessByWords(l []int32, i, order int) *big.Int {
	ahead := func(steps int) *big.Int {
		if i < steps {
			return big.NewInt(0)
		}
		return big.NewInt(int64(l[i-steps]))
	}
	times := func(n int64, v *big.Int) *big.Int { return v.Mul(v, big.NewInt(n)) }
	switch {
	case order <= 0:
		return big.NewInt(0)
	case order == 1:
		return ahead(1)
	case order == 2:
		twice := times(2, ahead(1))
		return twice.Sub(twice, ahead(2))
	}
	thrice := times(3, ahead(1))
	thrice.Sub(thrice, times(3, ahead(2)))
	return thrice.Add(thrice, ahead(3))
}

// residualByWords is what Residual is, by the chapter's words.
func residualByWords(l []int32, order int) []int32 {
	out := make([]int32, len(l))
	for i, v := range l {
		n := big.NewInt(int64(v))
		out[i] = round(n.Sub(n, guessByWords(l, i, order)))
	}
	return out
}

// restoreByWords finds the numbers one by one: each is the one that leaves what l tells.
func restoreByWords(l []int32, order int) []int32 {
	out := make([]int32, 0, len(l))
	for i, v := range l {
		n := big.NewInt(int64(v))
		out = append(out, round(n.Add(n, guessByWords(out, i, order))))
	}
	return out
}

// weightByWords is what Weight is, of any size.
func weightByWords(l []int32) *big.Int {
	sum := new(big.Int)
	for _, v := range l {
		n := big.NewInt(int64(v))
		sum.Add(sum, n.Abs(n))
	}
	return sum
}

// bestByWords is what Best is: no order leaves less, and each below leaves more.
func bestByWords(l []int32) int {
	best := 3
	for order := 2; order >= 0; order-- {
		if weightByWords(residualByWords(l, order)).Cmp(weightByWords(residualByWords(l, best))) <= 0 {
			best = order
		}
	}
	return best
}
