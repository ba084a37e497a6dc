package mix

import (
	"math"
	"slices"
	"sync"
	"testing"
)

// fresh are the weights of a set that has learnt nothing.
func fresh() []int {
	return []int{16384, 16384, 16384, 16384}
}

// check tells of weights that are others than wanted.
func check(t *testing.T, what string, m *Mixer, set int, want ...int) {
	t.Helper()
	if got := m.Weights(set); !slices.Equal(got, want) {
		t.Errorf("%s: Weights(%d): %v; want %v", what, set, got, want)
	}
}

func TestNew(t *testing.T) { // P6.2
	for _, c := range []struct{ n, want int }{
		{1, 1}, {2, 2}, {3, 3}, {256, 256}, {4095, 4095}, {4096, 4096},
		{0, 1}, {-1, 1}, {-4096, 1}, {math.MinInt, 1},
		{4097, 4096}, {1 << 20, 4096}, {math.MaxInt32, 4096}, {math.MaxInt, 4096},
	} {
		m := New(c.n)
		for set := range c.want {
			if got := m.Weights(set); !slices.Equal(got, fresh()) {
				t.Fatalf("New(%d): Weights(%d): %v", c.n, set, got)
			}
		}
		m.Mix(0, 1000)
		m.Learn(1)
		for set := 1; set <= 2*c.want; set++ { // the first comes round once there are no more
			if learnt := !slices.Equal(m.Weights(set), fresh()); learnt != (set%c.want == 0) {
				t.Fatalf("New(%d): what set 0 learns, set %d: %v", c.n, set, learnt)
			}
		}
	}
}

func TestMix(t *testing.T) { // P6.2, example 1
	for _, c := range []struct {
		inputs []int
		want   int
	}{
		{[]int{512, 512, 512, 512}, 3328},
		{[]int{-512, -512, -512, -512}, 768},
		{[]int{1, 1, 1, 1}, 2052}, // the sum is shifted, not each
		{[]int{1, 1, 1, 0}, 2048},
		{[]int{-1}, 2044}, // a shift goes down: -1, not 0
		{[]int{-1, 1}, 2048},
		{[]int{2047, 2047, 2047, 2047}, 4095},
		{[]int{-2047, -2047, -2047, -2047}, 1},
		{[]int{2047, -2047, 400, 400}, 2767},
	} {
		if got := New(1).Mix(0, c.inputs...); got != c.want {
			t.Errorf("Mix of %v: %d; want %d", c.inputs, got, c.want)
		}
	}
}

func TestMixOfFewAndOfMany(t *testing.T) { // P6.2, R6: the first four count, what lacks is 0
	m := New(3)
	for _, c := range []struct{ inputs, same []int }{
		{nil, []int{0, 0, 0, 0}},
		{[]int{}, []int{0, 0, 0, 0}},
		{[]int{700}, []int{700, 0, 0, 0}},
		{[]int{700, -90}, []int{700, -90, 0, 0}},
		{[]int{700, -90, 33}, []int{700, -90, 33, 0}},
		{[]int{700, -90, 33, 5, 2047}, []int{700, -90, 33, 5}},
		{slices.Repeat([]int{700}, 1000), []int{700, 700, 700, 700}},
	} {
		m.Mix(1, 2000, 2000, 2000, 2000) // none of it stays
		a, x := m.Mix(0, c.inputs...), New(1)
		if b := x.Mix(0, c.same...); a != b || a != m.Mix(1, c.same...) {
			t.Errorf("Mix of %v: %d; of %v: %d", c.inputs, a, c.same, b)
		}
		y := New(1)
		y.Mix(0, c.inputs...)
		x.Learn(1)
		y.Learn(1)
		check(t, "learnt", y, 0, x.Weights(0)...)
	}
	if got := New(1).Mix(0); got != 2048 {
		t.Errorf("Mix of nothing: %d", got)
	}
}

func TestMixOfOddInputs(t *testing.T) { // P6.2: an input out of bounds counts as the bound, in Learn too
	for _, v := range oddNumbers() {
		bound := 2047
		if v < 0 {
			bound = -2047
		}
		x, y := New(1), New(1)
		for place := range 4 {
			odd, even := make([]int, 4), make([]int, 4)
			odd[place], even[place] = v, bound
			if a, b := x.Mix(0, odd...), y.Mix(0, even...); a != b {
				t.Errorf("Mix of %v: %d; want %d", odd, a, b)
			}
			x.Learn(place % 2)
			y.Learn(place % 2)
			check(t, "learnt", x, 0, y.Weights(0)...)
		}
	}
}

func TestLearn(t *testing.T) { // P6.2
	m := New(1)
	m.Mix(0, 512, -512, 100, 0) // 25: 2048 and 119
	if m.told != 2167 {
		t.Fatalf("told: %d", m.told)
	}
	m.Learn(1) // the error is 7 times 1928, 13,496: 105.94, -104.94 and 21.09, shifted
	check(t, "a one", m, 0, 16384+105, 16384-105, 16384+21, 16384)
	m.Mix(0, 2047, 0, 0, -3) // 2047 times 16,489 less 3 times 16,384: 514
	if m.told != 3330 {
		t.Fatalf("told: %d", m.told)
	}
	m.Learn(0) // the error is -23,310: -727.58 and 1.57, shifted
	check(t, "a zero", m, 0, 16489-728, 16279, 16405, 16385)
}

func TestLearnRounds(t *testing.T) { // P6.2: 32,768 ahead of the shift
	for _, c := range []struct{ input, bit, want int }{ // the error is about 14,336, or as much below 0
		{1, 1, 0}, {2, 1, 0}, {3, 1, 1}, {-2, 1, 0}, {-3, 1, -1},
		{2, 0, 0}, {3, 0, -1}, {-2, 0, 0}, {-3, 0, 1},
	} {
		m := New(1)
		m.Mix(0, 0, c.input, 0, 0)
		m.Learn(c.bit)
		check(t, "rounded", m, 0, 16384, 16384+c.want, 16384, 16384)
	}
	half := New(1)
	half.told, half.inputs = 4095-1024, [4]int{32, -32, 96, -96} // the error is 7 times 1,024: 3.5, -3.5 and thrice that
	half.Learn(1)
	check(t, "just half", half, 0, 16384+4, 16384-3, 16384+11, 16384-10)
}

func TestLearnOfOddBits(t *testing.T) { // P6.2: each bit that is not 0 is a one
	want := New(1)
	want.Mix(0, 900, -20, 5)
	want.Learn(1)
	for _, bit := range []int{math.MinInt, -256, -2, -1, 2, 3, 256, 4095, math.MaxInt} {
		m := New(1)
		m.Mix(0, 900, -20, 5)
		m.Learn(bit)
		check(t, "an odd bit", m, 0, want.Weights(0)...)
	}
}

func TestLearnWithoutMix(t *testing.T) { // P6.2
	m := New(2)
	m.Learn(1)
	m.Learn(0)
	m.Weights(0)
	m.Learn(7)
	check(t, "without a Mix", m, 0, fresh()...)
	check(t, "without a Mix", m, 1, fresh()...)
	if got := m.Mix(0, 512, 512, 512, 512); got != 3328 {
		t.Errorf("Mix behind it: %d", got)
	}
}

func TestLearnIsOfTheLastMix(t *testing.T) { // P6.2
	m := New(3)
	m.Mix(0, 2000, 2000, 2000, 2000)
	m.Mix(2, 300, 0, -300, 40) // 10: 2048 and 49
	m.Learn(1)
	check(t, "another set", m, 0, fresh()...)
	check(t, "another set", m, 1, fresh()...)
	check(t, "the set", m, 2, 16384+64, 16384, 16384-64, 16384+9)
	m.Learn(1) // once more: of the same Mix, with what was told then
	check(t, "once more", m, 2, 16384+2*64, 16384, 16384-2*64, 16384+2*9)
	m.Learn(0) // the error is -14,679
	check(t, "the other bit", m, 2, 16384+2*64-67, 16384, 16384-2*64+67, 16384+2*9-9)
}

func TestWeightsHaveBounds(t *testing.T) { // P6.2: 2^24, and as much below 0
	m, w := New(1), newByWords(1)
	inputs := []int{2047, -2047, -2046, -2047}
	m.Mix(0, inputs...) // far from a one, so that much is learnt each time
	w.mix(0, inputs)
	for n := range 30000 {
		m.Learn(1)
		w.learn(1)
		if n%1000 == 0 || n > 29990 {
			check(t, "up and down", m, 0, w.listed(0)...)
		}
	}
	check(t, "at the bounds", m, 0, 1<<24, -1<<24, -1<<24, -1<<24)
	if got := m.Mix(0, inputs...); got != 4095 {
		t.Errorf("Mix at the bounds: %d", got)
	}
	if got := m.Mix(0, -2047, 2047, 2047, 2047); got != 1 {
		t.Errorf("Mix at the bounds, the other way: %d", got)
	}
	m.Learn(0)
	m.Learn(1)
	w.mix(0, []int{-2047, 2047, 2047, 2047})
	w.learn(0)
	w.learn(1)
	check(t, "from the bounds", m, 0, w.listed(0)...)
	if m.Weights(0)[0] == 1<<24 {
		t.Error("a weight stays at the bound")
	}
}

func TestSetsGoRound(t *testing.T) { // P6.2: set counts modulo sets, as it is from 0 on
	for _, c := range []struct{ n, set, want int }{
		{3, 0, 0}, {3, 2, 2}, {3, 3, 0}, {3, 4, 1}, {3, 300, 0},
		{3, -1, 2}, {3, -2, 1}, {3, -3, 0}, {3, -4, 2},
		{1, 7, 0}, {1, -7, 0}, {1, math.MaxInt, 0}, {1, math.MinInt, 0},
		{256, 256, 0}, {256, -1, 255}, {256, math.MaxInt, 255}, {256, math.MinInt, 0}, {256, math.MinInt + 1, 1},
		{7, math.MaxInt, math.MaxInt % 7}, {7, math.MinInt, (math.MinInt%7 + 7) % 7},
		{4096, 4096, 0}, {4096, -1, 4095}, {4096, 4095, 4095},
		{1 << 20, 4096, 0}, {1 << 20, -1, 4095}, // modulo the sets that there are
		{-9, 5, 0},
	} {
		m := New(c.n)
		m.Mix(c.set, 1000) // 250: 2048 and 839
		m.Learn(1)         // the error is 8,456: 129.53, shifted
		check(t, "by its own number", m, c.want, 16384+129, 16384, 16384, 16384)
		check(t, "as it was told", m, c.set, 16384+129, 16384, 16384, 16384)
		if a, b := m.Mix(c.set, 1000), m.Mix(c.want, 1000); a != b {
			t.Errorf("New(%d): Mix of set %d: %d; of %d: %d", c.n, c.set, a, c.want, b)
		}
		for other := range len(m.sets) {
			if other != c.want && !slices.Equal(m.Weights(other), fresh()) {
				t.Fatalf("New(%d): set %d learns what %d is told", c.n, other, c.set)
			}
		}
	}
}

func TestMixerOfAny(t *testing.T) { // P6.1, P6.2: against the words of the promises
	for seed := range 300 {
		l := luck(seed)
		n := []int{1, 2, 3, 1 + l.below(40), 256, 4095, 4096, l.any() % 10000}[l.below(8)]
		m, w := New(n), newByWords(n)
		for range 400 {
			set := []int{l.below(3), l.below(3), l.any()}[l.below(3)]
			if l.below(4) > 0 {
				inputs := l.list()
				if got, want := m.Mix(set, inputs...), w.mix(set, inputs); got != want {
					t.Fatalf("seed %d: Mix(%d, %v): %d; want %d", seed, set, inputs, got, want)
				}
			}
			for range l.below(3) {
				bit := []int{0, 0, 1, 1, l.any()}[l.below(5)]
				m.Learn(bit)
				w.learn(bit)
			}
			for _, set := range []int{set, w.set, l.any()} {
				if got, want := m.Weights(set), w.listed(set); !slices.Equal(got, want) {
					t.Fatalf("seed %d: Weights(%d): %v; want %v", seed, set, got, want)
				}
			}
		}
		for set := range w.n {
			if got, want := m.Weights(set), w.listed(set); !slices.Equal(got, want) {
				t.Fatalf("seed %d: in the end, Weights(%d): %v; want %v", seed, set, got, want)
			}
		}
	}
}

func TestWhatIsRightWeighsMore(t *testing.T) { // what follows
	l := luck(1)
	m := New(1)
	sure, before := 0, m.Weights(0)
	for n := range 4000 {
		bit := l.below(2)
		right := 400 * (2*bit - 1)
		told := m.Mix(0, right, -right, l.below(801)-400) // one is always right, one always wrong, one hangs on nothing
		if n >= 3000 && (bit == 1 && told > 3500 || bit == 0 && told < 600) {
			sure++
		}
		m.Learn(bit)
		after := m.Weights(0)
		if after[0] < before[0] || after[1] > before[1] {
			t.Fatalf("after %d bits: %v behind %v", n, after, before)
		}
		before = after
	}
	if before[0] <= 16384 || before[1] >= 16384 || before[2] >= before[0] || sure != 1000 {
		t.Errorf("in the end: %v, sure of %d in the last 1,000", before, sure)
	}
}

func TestNilMixer(t *testing.T) { // P6.2, R1
	var none *Mixer
	for _, v := range []int{math.MinInt, -1, 0, 1, math.MaxInt} {
		none.Learn(v)
		if a, b := none.Mix(v), none.Mix(v, v, v, v, v, v); a != 0 || b != 0 {
			t.Errorf("nil: Mix of set %d: %d, %d", v, a, b)
		}
		none.Learn(v)
		if got := none.Weights(v); len(got) != 0 {
			t.Errorf("nil: Weights(%d): %v", v, got)
		}
	}
}

func TestZeroMixer(t *testing.T) { // R1: one that New has not made
	var zero Mixer
	for _, v := range []int{math.MinInt, -1, 0, 1, math.MaxInt} {
		zero.Learn(v)
		if got := zero.Mix(v, v); got != 0 {
			t.Errorf("zero: Mix: %d", got)
		}
		zero.Learn(v)
		if got := zero.Weights(v); len(got) != 0 {
			t.Errorf("zero: Weights(%d): %v", v, got)
		}
	}
}

func TestWeightsAreCopied(t *testing.T) { // P6.2, R3
	m := New(2)
	a, b := m.Weights(0), m.Weights(0)
	a[0], a[3] = 7, 8
	_ = append(a[:1], 9, 9, 9)
	if !slices.Equal(b, fresh()) {
		t.Errorf("another copy: %v", b)
	}
	check(t, "who writes into a copy", m, 0, fresh()...)
	m.Mix(0, 1000)
	m.Learn(1)
	if !slices.Equal(b, fresh()) {
		t.Errorf("a copy that was handed out learns: %v", b)
	}
}

func TestInputsAreNeitherChangedNorKept(t *testing.T) { // R3
	m := New(1)
	room := []int{9000, -9000, 3, 4, 5, 6, 7}
	m.Mix(0, room[:2]...)
	m.Mix(0, room[:5]...)
	if !slices.Equal(room, []int{9000, -9000, 3, 4, 5, 6, 7}) {
		t.Errorf("the inputs, and what is behind them: %v", room)
	}
	inputs := []int{512, -512, 100, 0}
	m.Mix(0, inputs...)
	for i := range inputs {
		inputs[i] = 2047
	}
	m.Learn(1)
	check(t, "inputs that are written into", m, 0, 16384+105, 16384-105, 16384+21, 16384)
}

func TestAskingTurnsNothing(t *testing.T) { // P6.2: neither Weights nor Mix moves a weight
	m := New(2)
	m.Mix(0, 1000, -1000)
	m.Learn(1)
	want := m.Weights(0)
	for i := -5; i < 5; i++ {
		m.Mix(i, 100*i, 7, 2047)
		m.Weights(i)
		check(t, "asked once more", m, 0, want...)
		check(t, "asked once more", m, 1, fresh()...)
	}
	m.Mix(1, 1000)
	m.Weights(0) // the last Mix stays the last
	m.Learn(1)
	check(t, "the set of the last Mix", m, 0, want...)
	check(t, "the set of the last Mix", m, 1, 16384+129, 16384, 16384, 16384)
}

func TestMixersSideBySide(t *testing.T) { // R2: one hangs on no other
	a, b := New(2), New(2)
	a.Mix(1, 1000)
	b.Learn(1)
	a.Learn(1)
	check(t, "another", b, 1, fresh()...)
	check(t, "a new one", New(2), 1, fresh()...)
	var join sync.WaitGroup
	for seed := range 8 {
		join.Go(func() {
			l := luck(seed)
			m, w := New(5), newByWords(5)
			for range 2000 {
				set, inputs, bit := l.below(5), l.list(), l.below(2)
				if m.Mix(set, inputs...) != w.mix(set, inputs) {
					t.Errorf("seed %d: it hangs on what goes on beside it", seed)
					return
				}
				m.Learn(bit)
				w.learn(bit)
			}
		})
	}
	join.Wait()
}
