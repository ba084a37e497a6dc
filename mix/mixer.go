package mix

import "valise/api"

const (
	maxSets     = 4096
	firstWeight = 1 << 14
	maxWeight   = 1 << 24
	weightBits  = 16 // a weight of 1 << weightBits leaves an input as it is
	learnRate   = 7
)

// weights are how much each input counts.
type weights [api.Inputs]int

// Mixer makes one chance of many inputs, by a set of weights, and learns which of them are right. One that is zero has no sets, and answers as nil does.
type Mixer struct {
	sets []weights

	// Of the last Mix. Squash tells no 0, so told is 0 where there was none.
	set    int
	inputs [api.Inputs]int
	told   int
}

// New is a mixer of so many sets, in each of which all inputs count the same.
func New(sets int) *Mixer {
	m := &Mixer{sets: make([]weights, min(max(sets, 1), maxSets))}
	for s := range m.sets {
		for i := range m.sets[s] {
			m.sets[s][i] = firstWeight
		}
	}
	return m
}

// Mix is the chance that the inputs, as Stretch tells them, make together by the weights of that set.
func (m *Mixer) Mix(set int, inputs ...int) int {
	if m.empty() {
		return 0
	}
	m.set = m.place(set)
	m.inputs = taken(inputs)
	m.told = Squash(m.sets[m.set].dot(m.inputs))
	return m.told
}

// Learn tells the set of the last Mix which bit has come, a one unless it is 0.
func (m *Mixer) Learn(bit int) {
	if m.empty() || m.told == 0 {
		return
	}
	right := 0
	if bit != 0 {
		right = surest
	}
	m.sets[m.set].learn(m.inputs, learnRate*(right-m.told))
}

// Weights is a copy of the weights of that set.
func (m *Mixer) Weights(set int) []int {
	if m.empty() {
		return nil
	}
	w := m.sets[m.place(set)]
	return w[:]
}

func (m *Mixer) empty() bool {
	return m == nil || len(m.sets) == 0
}

// place is which set is meant. A rest has the sign of set, so one below 0 is counted from the end.
func (m *Mixer) place(set int) int {
	set %= len(m.sets)
	if set < 0 {
		set += len(m.sets)
	}
	return set
}

// taken is what counts of inputs.
func taken(inputs []int) [api.Inputs]int {
	var all [api.Inputs]int
	copy(all[:], inputs)
	for i, v := range all {
		all[i] = within(v, farthest)
	}
	return all
}

// dot adds in 64 bits, since the greatest weights and inputs together take more than 32.
func (w *weights) dot(inputs [api.Inputs]int) int {
	sum := int64(0)
	for i, v := range inputs {
		sum += int64(v) * int64(w[i])
	}
	return int(sum >> weightBits)
}

// learn moves each weight by its input's share in what was missed, rounded to the nearest.
func (w *weights) learn(inputs [api.Inputs]int, miss int) {
	for i, v := range inputs {
		w[i] = within(w[i]+(v*miss+1<<(weightBits-1))>>weightBits, maxWeight)
	}
}
