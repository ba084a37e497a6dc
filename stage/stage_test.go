package stage

import (
	"math"
	"slices"
	"sync"
	"testing"
)

// fresh are the steps of a context that has learnt nothing: squash's numbers, from one gap to the next, in 65,536ths.
func fresh() []int {
	return []int{
		16, 432, 912, 1456, 2048, 2736, 3520, 4416, 5472, 6704, 8192, 10016, 12288, 15216, 19120, 24576,
		32768,
		40960, 46416, 50320, 53248, 55520, 57344, 58832, 60064, 61120, 62016, 62800, 63488, 64080, 64624, 65104, 65520,
	}
}

// with are fresh steps, but for one.
func with(step, value int) []int {
	all := fresh()
	all[step] = value
	return all
}

// listed are all steps of a context.
func listed(s *Stage, context int) []int {
	var all []int
	for step := range 33 {
		all = append(all, s.At(context, step))
	}
	return all
}

// check tells of steps that are others than wanted.
func check(t *testing.T, what string, s *Stage, context int, want []int) {
	t.Helper()
	if got := listed(s, context); !slices.Equal(got, want) {
		t.Errorf("%s: the steps of context %d: %v; want %v", what, context, got, want)
	}
}

func TestNew(t *testing.T) { // P7.1
	for _, c := range []struct{ n, want int }{
		{1, 1}, {2, 2}, {3, 3}, {256, 256}, {1023, 1023}, {1024, 1024},
		{0, 1}, {-1, 1}, {-1024, 1}, {math.MinInt, 1},
		{1025, 1024}, {1 << 20, 1024}, {math.MaxInt32, 1024}, {math.MaxInt, 1024},
	} {
		s := New(c.n)
		for context := range c.want {
			if got := listed(s, context); !slices.Equal(got, fresh()) {
				t.Fatalf("New(%d): the steps of context %d: %v", c.n, context, got)
			}
		}
		s.Refine(2048, 0)
		s.Learn(1, 1)
		for context := 1; context <= 2*c.want; context++ { // the first comes round once there are no more
			if learnt := s.At(context, 16) != 32768; learnt != (context%c.want == 0) {
				t.Fatalf("New(%d): what context 0 learns, context %d: %v", c.n, context, learnt)
			}
		}
	}
}

func TestFirstSteps(t *testing.T) { // P7.1: against the words of the promise
	s := New(1)
	for k := range 33 {
		if got, want := s.At(0, k), 16*squashByWords(128*(k-16)); got != want {
			t.Errorf("step %d: %d; want %d", k, got, want)
		}
	}
}

func TestContextsGoRound(t *testing.T) { // P7.1: context counts modulo n, as it is from 0 on
	for _, c := range []struct{ n, context, want int }{
		{3, 0, 0}, {3, 2, 2}, {3, 3, 0}, {3, 4, 1}, {3, 300, 0},
		{3, -1, 2}, {3, -2, 1}, {3, -3, 0}, {3, -4, 2},
		{1, 7, 0}, {1, -7, 0}, {1, math.MaxInt, 0}, {1, math.MinInt, 0},
		{256, 256, 0}, {256, -1, 255}, {256, math.MaxInt, 255}, {256, math.MinInt, 0}, {256, math.MinInt + 1, 1},
		{7, math.MaxInt, math.MaxInt % 7}, {7, math.MinInt, (math.MinInt%7 + 7) % 7},
		{1024, 1024, 0}, {1024, -1, 1023}, {1024, 1023, 1023},
		{1 << 20, 1024, 0}, {1 << 20, -1, 1023}, // modulo the contexts that there are
		{-9, 5, 0},
	} {
		s := New(c.n)
		s.Refine(2048, c.context)
		s.Learn(0, 1)
		check(t, "by its own number", s, c.want, with(16, 16384))
		check(t, "as it was told", s, c.context, with(16, 16384))
		if got := s.Refine(2048, c.context); got != 1024 {
			t.Errorf("New(%d): Refine in context %d: %d; want 1024", c.n, c.context, got)
		}
		for other := range len(s.contexts) {
			if other != c.want && s.At(other, 16) != 32768 {
				t.Fatalf("New(%d): context %d learns what %d is told", c.n, other, c.context)
			}
		}
	}
}

func TestStepsGoRound(t *testing.T) { // P7.1: step counts modulo 33, as it is from 0 on
	s := New(2)
	for _, c := range []struct{ step, want int }{
		{0, 0}, {32, 32}, {33, 0}, {34, 1}, {65, 32}, {66, 0}, {3300, 0},
		{-1, 32}, {-2, 31}, {-32, 1}, {-33, 0}, {-34, 32},
		{math.MaxInt, math.MaxInt % 33}, {math.MinInt, (math.MinInt%33 + 33) % 33},
	} {
		if got := s.At(1, c.step); got != fresh()[c.want] {
			t.Errorf("At(1, %d): %d; want %d", c.step, got, fresh()[c.want])
		}
	}
}

func TestRefine(t *testing.T) { // P7.2, example 1
	for _, c := range []struct{ chance, want int }{
		{2048, 2048}, {2047, 2048}, {2045, 2048}, {2044, 2044}, {2049, 2052}, {2052, 2052}, {2053, 2056},
		{768, 768}, {3328, 3328}, // a step's own
		{1000, 1006}, {3000, 2992}, {100, 99}, {4000, 3999}, {2300, 2272}, {1757, 1788},
		{1, 1}, {2, 2}, {4, 4}, {16, 15}, {4094, 4093}, {4095, 4094},
	} {
		if got := New(1).Refine(c.chance, 0); got != c.want {
			t.Errorf("Refine(%d): %d; want %d", c.chance, got, c.want)
		}
	}
}

func TestRefineOfEachChance(t *testing.T) { // P7.2: against the words of the promise, of steps that are fresh, and that are not
	s, w := New(1), newByWords(1)
	for turn := range 3 {
		for p := -10; p <= 4110; p++ {
			if got, want := s.Refine(p, 0), w.refine(p, 0); got != want || got < 1 || got > 4095 {
				t.Fatalf("turn %d: Refine(%d): %d; want %d", turn, p, got, want)
			}
		}
		for k := range 33 {
			chance := squashByWords(128 * (k - 16))
			s.Refine(chance, 0)
			w.refine(chance, 0)
			s.Learn((k+turn)%3, 2)
			w.learn((k+turn)%3, 2)
		}
	}
}

func TestRefineOfOddChances(t *testing.T) { // P7.2: what is out of bounds counts as the bound
	for _, p := range append(oddNumbers(), 0) {
		bound := 4095
		if p < 1 {
			bound = 1
		}
		a, b := New(1), New(1)
		if x, y := a.Refine(p, 0), b.Refine(bound, 0); x != y {
			t.Errorf("Refine(%d): %d; of %d: %d", p, x, bound, y)
		}
		a.Learn(1, 1)
		b.Learn(1, 1)
		check(t, "learnt", a, 0, listed(b, 0))
	}
}

func TestRefineHasBounds(t *testing.T) { // P7.2: at least 1, at most 4,095, and a coder can take it
	s := New(1)
	for _, chance := range []int{1, 74} { // of the first step, and of the fourth
		for range 40 {
			s.Refine(chance, 0)
			s.Learn(0, 1)
		}
	}
	if s.At(0, 0) != 0 || s.At(0, 3) != 0 {
		t.Fatalf("what never comes: the first step %d, the fourth %d", s.At(0, 0), s.At(0, 3))
	}
	if got := s.Refine(1, 0); got != 1 { // 432 times 1, shifted: 0
		t.Errorf("what never comes: %d", got)
	}
	for range 40 {
		s.Refine(4095, 0)
		s.Learn(1, 1)
		s.Refine(4039, 0) // step 30
		s.Learn(1, 1)
		s.Refine(4069, 0) // step 31
		s.Learn(1, 1)
	}
	if s.At(0, 32) != 65534 || s.At(0, 31) != 65534 {
		t.Fatalf("what always comes: the last step %d, the one ahead %d", s.At(0, 32), s.At(0, 31))
	}
	if got := s.Refine(4095, 0); got != 4095 {
		t.Errorf("what always comes: %d", got)
	}
}

func TestLearn(t *testing.T) { // P7.2
	s := New(2)
	if got := s.Refine(2048, 0); got != 2048 {
		t.Fatalf("Refine(2048): %d", got)
	}
	s.Learn(1, 4) // 32,767 sixteenths: 2047.9
	check(t, "a one", s, 0, with(16, 34815))
	check(t, "a one, elsewhere", s, 1, fresh())
	if got := s.Refine(2048, 0); got != 2175 {
		t.Errorf("Refine behind a one: %d", got)
	}
	s.Learn(0, 4) // -34,815 sixteenths, -2175.9, goes down
	check(t, "a zero", s, 0, with(16, 32639))
	if got := s.Refine(2048, 0); got != 2039 {
		t.Errorf("Refine behind a zero: %d", got)
	}
}

func TestLearnGoesDown(t *testing.T) { // P7.2: shifted as signed numbers
	for _, c := range []struct{ bit, rate, want int }{
		{1, 1, 49151}, {0, 1, 16384}, {1, 15, 32768}, {0, 15, 32767}, {1, 14, 32769}, {0, 14, 32766},
		{1, 6, 33279}, {0, 6, 32256},
	} {
		s := New(1)
		s.Refine(2048, 0)
		s.Learn(c.bit, c.rate)
		check(t, "once", s, 0, with(16, c.want))
	}
	s := New(1)
	s.Refine(1, 0)
	for want := 15; want >= 0; want-- { // by one each time, down to 0
		s.Learn(0, 15)
		check(t, "a zero, again", s, 0, with(0, want))
	}
	s.Learn(0, 15)
	s.Learn(0, 1)
	check(t, "a zero, at 0", s, 0, with(0, 0))
	s.Refine(4095, 0)
	s.Learn(1, 15)
	s.Learn(1, 4)
	if got := s.At(0, 32); got != 65520 { // 15 is left, less than a sixteenth of a step
		t.Errorf("a one, near the greatest: %d", got)
	}
}

func TestLearnOfTheNearerStep(t *testing.T) { // P7.2: the one behind from 64 on
	for _, c := range []struct{ chance, step int }{
		{2048, 16}, {2325, 16}, {2328, 16}, {2329, 17}, {2332, 17}, {2556, 17}, {2560, 17}, // 63 up to 2328
		{1760, 15}, {1761, 16}, {2044, 16}, {1536, 15},
		{13, 0}, {14, 1}, {74, 3}, {149, 4}, {1, 0}, {4095, 32}, {4039, 30}, {4069, 31}, {3240, 19}, {3242, 20},
	} {
		s := New(3)
		s.Refine(c.chance, 1)
		s.Learn(0, 1)
		value := fresh()[c.step]
		check(t, "the nearer step", s, 1, with(c.step, value-(value+1)/2))
		check(t, "the nearer step, elsewhere", s, 0, fresh())
		check(t, "the nearer step, elsewhere", s, 2, fresh())
	}
}

func TestLearnOfOddRates(t *testing.T) { // P7.2: rate below 1 counts as 1, above 15 as 15
	for _, rate := range append(oddNumbers(), 0, 16, 17, 31, 32, 63, 64, 65) {
		bound := 15
		if rate < 1 {
			bound = 1
		}
		for bit := range 2 {
			a, b := New(1), New(1)
			for _, chance := range []int{1, 700, 2048, 4095} {
				a.Refine(chance, 0)
				b.Refine(chance, 0)
				a.Learn(bit, rate)
				b.Learn(bit, bound)
			}
			check(t, "an odd rate", a, 0, listed(b, 0))
		}
	}
}

func TestLearnOfOddBits(t *testing.T) { // P7.2: each bit that is not 0 is a one
	for _, bit := range []int{math.MinInt, -256, -2, -1, 2, 3, 256, 65535, math.MaxInt} {
		s := New(1)
		s.Refine(2048, 0)
		s.Learn(bit, 4)
		check(t, "an odd bit", s, 0, with(16, 34815))
	}
}

func TestLearnWithoutRefine(t *testing.T) { // P7.2
	s := New(2)
	s.Learn(1, 1)
	s.Learn(0, 4)
	s.At(0, 16)
	s.Learn(7, -7)
	check(t, "without a Refine", s, 0, fresh())
	check(t, "without a Refine", s, 1, fresh())
	if got := s.Refine(2048, 0); got != 2048 {
		t.Errorf("Refine behind it: %d", got)
	}
}

func TestLearnIsOfTheLastRefine(t *testing.T) { // P7.2
	s := New(3)
	s.Refine(3328, 0)
	s.Refine(768, 2)
	s.At(1, 5) // the last Refine stays the last
	s.Learn(1, 2)
	check(t, "another context", s, 0, fresh())
	check(t, "another context", s, 1, fresh())
	check(t, "the context", s, 2, with(12, 25599)) // 12,288 and 13,311.75
	s.Learn(1, 2)                                  // once more: of the same Refine
	check(t, "once more", s, 2, with(12, 35583))
	s.Learn(0, 1)
	check(t, "the other bit", s, 2, with(12, 17791)) // -17,791.5 goes down
}

func TestStageOfAny(t *testing.T) { // P7.1, P7.2: against the words of the promises
	for seed := range 300 {
		l := luck(seed)
		n := []int{1, 2, 3, 1 + l.below(40), 256, 1023, 1024, l.any() % 2000}[l.below(8)]
		s, w := New(n), newByWords(n)
		for range 400 {
			context := []int{l.below(3), l.below(3), l.any()}[l.below(3)]
			if l.below(4) > 0 {
				chance := l.chance()
				if got, want := s.Refine(chance, context), w.refine(chance, context); got != want {
					t.Fatalf("seed %d: Refine(%d, %d): %d; want %d", seed, chance, context, got, want)
				}
			}
			for range l.below(3) {
				bit, rate := []int{0, 0, 1, 1, l.any()}[l.below(5)], []int{l.below(17), 1, 6, l.any()}[l.below(4)]
				s.Learn(bit, rate)
				w.learn(bit, rate)
			}
			for _, p := range []place{w.nearer, {context, l.any()}, {l.any(), l.below(33)}} {
				if got, want := s.At(p.context, p.step), w.at(p.context, p.step); got != want {
					t.Fatalf("seed %d: At(%d, %d): %d; want %d", seed, p.context, p.step, got, want)
				}
			}
		}
		for context := range w.n {
			for k := range 33 {
				if got, want := s.At(context, k), w.at(context, k); got != want {
					t.Fatalf("seed %d: in the end, At(%d, %d): %d; want %d", seed, context, k, got, want)
				}
			}
		}
	}
}

func TestAtFirstItTellsWhatItIsTold(t *testing.T) { // what follows
	s := New(4)
	for p := 1; p <= 4095; p++ {
		got := s.Refine(p, p)
		if off := max(got-p, p-got); off > 31 { // between two steps the way is straight, Squash's is bent
			t.Errorf("Refine(%d): %d", p, got)
		}
		if got < New(1).Refine(p-1, 0) {
			t.Errorf("Refine(%d): %d, and that of the chance below is greater", p, got)
		}
	}
}

func TestItTellsWhatTurnsOut(t *testing.T) { // a chance that is always too low is told higher, in that context alone
	s, l := New(2), luck(1)
	for range 4000 {
		s.Refine(1195, 0) // step 14
		bit := 0
		if l.below(4) > 0 {
			bit = 1
		}
		s.Learn(bit, 6)
	}
	if got := s.Refine(1195, 0); got < 2700 || got > 3450 { // three of four are 3,072
		t.Errorf("what comes three times of four: %d", got)
	}
	if got := s.Refine(1195, 1); got != 1195 {
		t.Errorf("in the other context: %d", got)
	}
}

func TestNilStage(t *testing.T) { // P7.2, R1
	var none *Stage
	for _, v := range []int{math.MinInt, -1, 0, 1, 2048, math.MaxInt} {
		none.Learn(v, v)
		if got := none.Refine(v, v); got != 0 {
			t.Errorf("nil: Refine(%d, %d): %d", v, v, got)
		}
		none.Learn(v, v)
		if got := none.At(v, v); got != 0 {
			t.Errorf("nil: At(%d, %d): %d", v, v, got)
		}
	}
}

func TestZeroStage(t *testing.T) { // R1: one that New has not made
	var zero Stage
	for _, v := range []int{math.MinInt, -1, 0, 1, 2048, math.MaxInt} {
		zero.Learn(v, v)
		if got := zero.Refine(v, v); got != 0 {
			t.Errorf("zero: Refine(%d, %d): %d", v, v, got)
		}
		zero.Learn(v, v)
		if got := zero.At(v, v); got != 0 {
			t.Errorf("zero: At(%d, %d): %d", v, v, got)
		}
	}
}

func TestAskingTurnsNothing(t *testing.T) { // P7.2: neither At nor Refine moves a step
	s := New(2)
	s.Refine(2048, 0)
	s.Learn(1, 4)
	for i := -50; i < 50; i++ {
		s.At(i, i)
		s.Refine(41*i, i)
		check(t, "asked once more", s, 0, with(16, 34815))
		check(t, "asked once more", s, 1, fresh())
	}
}

func TestStagesSideBySide(t *testing.T) { // R2: one hangs on no other
	a, b := New(2), New(2)
	a.Refine(2048, 1)
	b.Learn(1, 1)
	a.Learn(1, 1)
	check(t, "another", b, 1, fresh())
	check(t, "a new one", New(2), 1, fresh())
	var join sync.WaitGroup
	for seed := range 8 {
		join.Go(func() {
			l := luck(seed)
			s, w := New(5), newByWords(5)
			for range 2000 {
				chance, context, bit, rate := l.chance(), l.below(5), l.below(2), l.below(17)
				if s.Refine(chance, context) != w.refine(chance, context) {
					t.Errorf("seed %d: it hangs on what goes on beside it", seed)
					return
				}
				s.Learn(bit, rate)
				w.learn(bit, rate)
			}
		})
	}
	join.Wait()
}
