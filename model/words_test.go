package model

import "math"

// luck is a row of numbers that look like chance, and are the same each time.
type luck uint64

func (l *luck) below(n int) int {
	*l = *l*6364136223846793005 + 1442695040888963407
	return int(uint64(*l)>>33) % n
}

// bits are n of a kind: any, mostly ones, mostly zeros, those of words that come again, or of bytes that do.
func (l *luck) bits(n, kind int) []int {
	var all []int
	for len(all) < n {
		switch kind {
		case 0:
			all = append(all, l.below(2))
		case 1:
			all = append(all, min(l.below(40), 1))
		case 2:
			all = append(all, 1-min(l.below(40), 1))
		case 3:
			all = append(all, bitsOf([]byte([]string{"the ", "then ", "other ", "oh, "}[l.below(4)])...)...)
		default:
			all = append(all, bitsOf([]byte{0, 255, 128, 1, byte(l.below(256))}[l.below(5)])...)
		}
	}
	return all[:n]
}

// bitsOf are the bits of bytes, the highest of each first.
func bitsOf(bytes ...byte) []int {
	var all []int
	for _, b := range bytes {
		for k := 7; k >= 0; k-- {
			all = append(all, int(b)>>k&1)
		}
	}
	return all
}

// oddBits are ones that are not 1.
func oddBits() []int {
	return []int{math.MinInt, math.MinInt + 1, math.MinInt32, -256, -2, -1, 2, 3, 255, 256, 65536, math.MaxInt32, math.MaxInt}
}

// down is v divided by n, the greatest number that is not above it: what a shift of a signed number is.
func down(v, n int) int {
	rest := (v%n + n) % n
	return (v - rest) / n
}

func clamped(v, least, most int) int {
	if v < least {
		return least
	}
	if v > most {
		return most
	}
	return v
}

// squashByWords is Squash as chapter 6 says it.
func squashByWords(d int) int {
	d = clamped(d, -2047, 2047)
	if d < 0 {
		return 2048 - 2560*-d/(512-d)
	}
	return 2048 + 2560*d/(512+d)
}

// stretchByWords is Stretch as chapter 6 says it: of all numbers, the first that will do.
var stretchByWords = func() func(int) int {
	var known [4096]int
	for p := 1; p <= 4095; p++ {
		d := -2047
		for squashByWords(d) < p {
			d++
		}
		known[p] = d
	}
	return func(p int) int { return known[clamped(p, 1, 4095)] }
}()

// guessPlace tells one guess of one table, and stepPlace one step of one context.
type (
	guessPlace struct{ table, place int }
	stepPlace  struct{ context, step int }
)

// modelByWords is a model as the words of chapters 5 to 8 say it: what was not learnt is not there.
type modelByWords struct {
	level, part, last, older int

	guesses map[guessPlace]int
	weights map[int][4]int
	steps   map[stepPlace]int

	inputs [4]int // of what was told last
	mixed  int
	nearer stepPlace
}

func newByWords(level int) *modelByWords {
	return &modelByWords{
		level: clamped(level, 0, 2), part: 1,
		guesses: map[guessPlace]int{}, weights: map[int][4]int{}, steps: map[stepPlace]int{},
	}
}

// context is where a table is asked now.
func (w *modelByWords) context(table int) int {
	switch table {
	case 0:
		return w.part
	case 1:
		return w.last*256 + w.part
	}
	return int((int64(w.older*256+w.last)*40503 + int64(w.part)*7919) % 65536)
}

func (w *modelByWords) guess(table, place int) int {
	if v, ok := w.guesses[guessPlace{table, place}]; ok {
		return v
	}
	return 32768
}

// at is a table's chance now.
func (w *modelByWords) at(table int) int {
	return max(w.guess(table, w.context(table))/16, 1)
}

func (w *modelByWords) set(n int) [4]int {
	if v, ok := w.weights[n]; ok {
		return v
	}
	return [4]int{16384, 16384, 16384, 16384}
}

func (w *modelByWords) step(context, step int) int {
	if v, ok := w.steps[stepPlace{context, step}]; ok {
		return v
	}
	return 16 * squashByWords(128*(step-16))
}

func (w *modelByWords) mix() int {
	w.inputs = [4]int{stretchByWords(w.at(0)), stretchByWords(w.at(1)), 0, 256}
	if w.level == 2 {
		w.inputs[2] = stretchByWords(w.at(2))
	}
	sum, weights := 0, w.set(w.part)
	for i, v := range w.inputs {
		sum += v * weights[i]
	}
	return squashByWords(down(sum, 65536))
}

func (w *modelByWords) refine(chance int) int {
	s := stretchByWords(chance) + 2048
	k, rest := s/128, s%128
	w.nearer = stepPlace{w.part, k}
	if rest >= 64 {
		w.nearer.step++
	}
	return clamped((w.step(w.part, k)*(128-rest)+w.step(w.part, k+1)*rest)/2048, 1, 4095)
}

func (w *modelByWords) chance() int {
	if w.level == 0 {
		return w.at(0)
	}
	w.mixed = w.mix()
	return (w.mixed + 3*w.refine(w.mixed)) / 4
}

func (w *modelByWords) learn(bit int) {
	w.chance()
	one := bit != 0
	for table, parts := range [][]int{{16}, {16, 16}, {16, 16, 8}}[w.level] {
		p := guessPlace{table, w.context(table)}
		v := w.guess(table, p.place)
		if one {
			w.guesses[p] = v + (65535-v)/parts
		} else {
			w.guesses[p] = v - v/parts
		}
	}
	if w.level > 0 {
		w.learnMixed(one)
		w.learnRefined(one)
	}
	w.part *= 2
	if one {
		w.part++
	}
	if w.part >= 256 {
		w.older, w.last, w.part = w.last, w.part-256, 1
	}
}

func (w *modelByWords) learnMixed(one bool) {
	miss := -7 * w.mixed
	if one {
		miss = 7 * (4095 - w.mixed)
	}
	weights := w.set(w.part)
	for i, v := range w.inputs {
		weights[i] = clamped(weights[i]+down(v*miss+32768, 65536), -1<<24, 1<<24)
	}
	w.weights[w.part] = weights
}

func (w *modelByWords) learnRefined(one bool) {
	v := w.step(w.nearer.context, w.nearer.step)
	if one {
		w.steps[w.nearer] = v + down(65535-v, 64)
	} else {
		w.steps[w.nearer] = v + down(-v, 64)
	}
}
