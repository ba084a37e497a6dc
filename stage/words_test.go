package stage

import "math"

// luck is a row of numbers that look like chance, and are the same each time.
type luck uint64

func (l *luck) below(n int) int {
	*l = *l*6364136223846793005 + 1442695040888963407
	return int(uint64(*l)>>33) % n
}

// any is a number, the edges of what numbers there are more often than others.
func (l *luck) any() int {
	return []int{math.MinInt, math.MinInt + 1, -1, 0, 1, 33, 1024, math.MaxInt - 1, math.MaxInt, l.below(1 << 20), -l.below(1 << 20)}[l.below(11)]
}

// chance is one as a guess tells it, or at the bounds of what counts, or any.
func (l *luck) chance() int {
	return []int{1 + l.below(4095), 1 + l.below(4095), 1 + l.below(30), 4095 - l.below(30), 0, 1, 2, 4094, 4095, 4096, l.any()}[l.below(11)]
}

// oddNumbers are numbers out of all bounds, and at the edges of what numbers there are.
func oddNumbers() []int {
	return []int{math.MinInt, math.MinInt + 1, math.MinInt32, -65536, -4096, -4095, -33, -2, -1, 4096, 4097, 8191, 65536, 1 << 20, math.MaxInt32, math.MaxInt - 1, math.MaxInt}
}

// squashByWords is Squash as chapter 6 says it.
func squashByWords(d int) int {
	d = max(-2047, min(d, 2047))
	if d < 0 {
		return 2048 - 2560*-d/(512-d)
	}
	return 2048 + 2560*d/(512+d)
}

// stretchByWords is Stretch as chapter 6 says it: it tries one number behind the other.
func stretchByWords(p int) int {
	p = max(1, min(p, 4095))
	d := -2047
	for squashByWords(d) < p {
		d++
	}
	return d
}

// place tells one step of one context.
type place struct{ context, step int }

// stageByWords is a stage as the promises' words say it: what was not learnt is not there.
type stageByWords struct {
	n       int
	steps   map[place]int
	refined bool
	nearer  place
}

func newByWords(n int) *stageByWords {
	if n < 1 {
		n = 1
	}
	if n > 1024 {
		n = 1024
	}
	return &stageByWords{n: n, steps: map[place]int{}}
}

// find is the place that is meant, and its number.
func (w *stageByWords) find(context, step int) (place, int) {
	p := place{(context%w.n + w.n) % w.n, (step%33 + 33) % 33}
	if v, ok := w.steps[p]; ok {
		return p, v
	}
	return p, 16 * squashByWords(128*(p.step-16))
}

func (w *stageByWords) at(context, step int) int {
	_, v := w.find(context, step)
	return v
}

func (w *stageByWords) refine(chance, context int) int {
	s := stretchByWords(chance) + 2048
	k, rest := s/128, s%128
	_, low := w.find(context, k)
	_, high := w.find(context, k+1)
	w.refined = true
	if rest >= 64 {
		w.nearer, _ = w.find(context, k+1)
	} else {
		w.nearer, _ = w.find(context, k)
	}
	told := (low*(128-rest) + high*rest) / 2048
	if told < 1 {
		return 1
	}
	if told > 4095 {
		return 4095
	}
	return told
}

func (w *stageByWords) learn(bit, rate int) {
	if !w.refined {
		return
	}
	parts := 1
	for range max(1, min(rate, 15)) {
		parts *= 2
	}
	v := w.at(w.nearer.context, w.nearer.step)
	if bit != 0 {
		w.steps[w.nearer] = v + (65535-v)/parts
	} else {
		w.steps[w.nearer] = v - (v+parts-1)/parts // a shift of what is below 0 goes down
	}
}
