package mix

import (
	"math"
	"math/big"
)

// luck is a row of numbers that look like chance, and are the same each time.
type luck uint64

func (l *luck) below(n int) int {
	*l = *l*6364136223846793005 + 1442695040888963407
	return int(uint64(*l)>>33) % n
}

// any is a number, the edges of what numbers there are more often than others.
func (l *luck) any() int {
	return []int{math.MinInt, math.MinInt + 1, -1, 0, 1, 4096, math.MaxInt - 1, math.MaxInt, l.below(1 << 20), -l.below(1 << 20)}[l.below(10)]
}

// input is a number as a guess tells it, or one at the bounds of what counts, or any.
func (l *luck) input() int {
	return []int{l.below(4095) - 2047, l.below(4095) - 2047, l.below(200) - 100, -2049, -2048, -2047, -2046, 0, 2046, 2047, 2048, 2049, l.any()}[l.below(13)]
}

// list is up to six inputs.
func (l *luck) list() []int {
	all := make([]int, []int{4, 4, 4, l.below(7)}[l.below(4)])
	for i := range all {
		all[i] = l.input()
	}
	return all
}

// oddNumbers are numbers out of all bounds, and at the edges of what numbers there are.
func oddNumbers() []int {
	return []int{math.MinInt, math.MinInt + 1, math.MinInt32, -1 << 20, -65536, -9000, -4096, -2050, -2049, -2048, 2048, 2049, 2050, 4096, 4097, 9000, 65536, 1 << 20, math.MaxInt32, math.MaxInt - 1, math.MaxInt}
}

// squashByWords is Squash as the promise's words say it.
func squashByWords(d int) int {
	if d < -2047 {
		d = -2047
	}
	if d > 2047 {
		d = 2047
	}
	amount := d
	if d < 0 {
		amount = -d
	}
	part := 2560 * amount / (512 + amount) // towards 0: of the amount, the rest is left out
	if d < 0 {
		return 2048 - part
	}
	return 2048 + part
}

// stretchByWords is Stretch as the promise's words say it: it tries one number behind the other.
func stretchByWords(p int) int {
	if p < 1 {
		p = 1
	}
	if p > 4095 {
		p = 4095
	}
	d := -2047
	for squashByWords(d) < p {
		d++
	}
	return d
}

// mixerByWords is a mixer as the promise's words say it, in numbers without bounds; what was not learnt is not there.
type mixerByWords struct {
	n       int
	weights map[int][4]int64
	mixed   bool
	set     int
	inputs  [4]int64
	told    int
}

func newByWords(sets int) *mixerByWords {
	if sets < 1 {
		sets = 1
	}
	if sets > 4096 {
		sets = 4096
	}
	return &mixerByWords{n: sets, weights: map[int][4]int64{}}
}

// at is the set's place, and its weights.
func (w *mixerByWords) at(set int) (int, [4]int64) {
	place := (set%w.n + w.n) % w.n
	if all, ok := w.weights[place]; ok {
		return place, all
	}
	return place, [4]int64{16384, 16384, 16384, 16384}
}

func (w *mixerByWords) mix(set int, inputs []int) int {
	w.mixed = true
	w.inputs = [4]int64{}
	for i, v := range inputs {
		if i < 4 {
			w.inputs[i] = clamped(big.NewInt(int64(v)), 2047)
		}
	}
	place, weights := w.at(set)
	w.set = place
	sum := new(big.Int)
	for i := range 4 {
		sum.Add(sum, new(big.Int).Mul(big.NewInt(w.inputs[i]), big.NewInt(weights[i])))
	}
	w.told = squashByWords(int(downwards(sum).Int64()))
	return w.told
}

func (w *mixerByWords) learn(bit int) {
	if !w.mixed {
		return
	}
	place, weights := w.at(w.set)
	miss := int64(-7 * w.told)
	if bit != 0 {
		miss = int64(7 * (4095 - w.told))
	}
	for i := range 4 {
		step := new(big.Int).Mul(big.NewInt(w.inputs[i]), big.NewInt(miss))
		step = downwards(step.Add(step, big.NewInt(32768)))
		weights[i] = clamped(step.Add(step, big.NewInt(weights[i])), 1<<24)
	}
	w.weights[place] = weights
}

// listed is the weights of a set as Weights tells them.
func (w *mixerByWords) listed(set int) []int {
	_, weights := w.at(set)
	var all []int
	for _, v := range weights {
		all = append(all, int(v))
	}
	return all
}

// downwards is v divided by 65,536, the greatest number that is not above it: what a shift of a signed number is.
func downwards(v *big.Int) *big.Int {
	return new(big.Int).Div(v, big.NewInt(65536)) // its rest is never below 0
}

// clamped is v, or the nearer of -most and most.
func clamped(v *big.Int, most int64) int64 {
	if v.Cmp(big.NewInt(most)) > 0 {
		return most
	}
	if v.Cmp(big.NewInt(-most)) < 0 {
		return -most
	}
	return v.Int64()
}
