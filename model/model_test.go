package model

import (
	"math"
	"reflect"
	"slices"
	"sync"
	"testing"
)

// learnt is a model to which these bits have come.
func learnt(level int, bits ...int) *Model {
	m := New(level)
	for _, bit := range bits {
		m.Learn(bit)
	}
	return m
}

// told are the chances of bits, one behind the other; the model learns them.
func told(m *Model, bits ...int) []int {
	var all []int
	for _, bit := range bits {
		all = append(all, m.Chance())
		m.Learn(bit)
	}
	return append(all, m.Chance())
}

func TestNewCountsLevels(t *testing.T) { // P8.1: below 0 as 0, above 2 as 2
	l := luck(1)
	bits := l.bits(2000, 3)
	want := [][]int{told(New(0), bits...), told(New(1), bits...), told(New(2), bits...)}
	if slices.Equal(want[0], want[1]) || slices.Equal(want[1], want[2]) {
		t.Fatal("two levels tell the same")
	}
	for _, c := range []struct{ level, as int }{
		{-1, 0}, {-2, 0}, {-256, 0}, {math.MinInt32, 0}, {math.MinInt, 0},
		{3, 2}, {4, 2}, {256, 2}, {math.MaxInt32, 2}, {math.MaxInt, 2},
	} {
		if got := told(New(c.level), bits...); !slices.Equal(got, want[c.as]) {
			t.Errorf("New(%d) tells other chances than New(%d)", c.level, c.as)
		}
	}
}

func TestNewHasItsParts(t *testing.T) { // P8.1: of each level
	for level := -1; level < 4; level++ {
		g := New(level).by
		for i, n := range []int{256, 65536, 65536} {
			if got := g.tables[i].Len(); got != n {
				t.Errorf("level %d: table %d has %d guesses; want %d", level, i, got, n)
			}
		}
		g.Mix(0, 2000)
		g.Mixer.Learn(1)
		g.Refine(2048, 0)
		g.Stage.Learn(1, 1)
		for n := 1; n <= 512; n++ { // the first comes round once there are no more
			first := n%256 == 0
			if learnt := g.Weights(n)[0] != 16384; learnt != first {
				t.Fatalf("level %d: what the mixer's set 0 learns, set %d: %v", level, n, learnt)
			}
			if learnt := g.Stage.At(n, 16) != 32768; learnt != first {
				t.Fatalf("level %d: what the stage's context 0 learns, context %d: %v", level, n, learnt)
			}
		}
	}
}

func TestFirstChance(t *testing.T) { // P8.2, example 1
	for level, want := range []int{2048, 2311, 2311} { // of the input that is always there: Squash(64) is 2332, between steps 16 and 17 it is 2304
		if got := New(level).Chance(); got != want {
			t.Errorf("level %d: %d; want %d", level, got, want)
		}
	}
}

func TestChancesOfALetter(t *testing.T) { // P8.2: at level 0, by hand
	e := bitsOf('e', 'e') // 0110 0101
	want := []int{
		2048, 2048, 2048, 2048, 2048, 2048, 2048, 2048, // each part for the first time
		1920, 2175, 2175, 1920, 1920, 2175, 1920, 2175, 1800, // 30,720 or 34,815, and 28,800
	}
	if got := told(New(0), e...); !slices.Equal(got, want) {
		t.Errorf("%v; want %v", got, want)
	}
}

// held is all that there is to see at one bit's places.
type held struct {
	tables  [contexts]int
	weights [4]int
	step    int
}

// see is what stands there.
func see(m *Model, places [contexts]int, step int) held {
	h := held{weights: [4]int(m.by.Weights(places[0])), step: m.by.Stage.At(places[0], step)}
	for i, t := range m.by.tables {
		h.tables[i] = t.At(places[i])
	}
	return h
}

func TestLearn(t *testing.T) { // P8.2: the first bit, by hand
	even := [4]int{16384, 16384, 16384, 16384}
	one, zero := even, even
	one[3], zero[3] = 16384+48, 16384-64 // 256 times 7 times 1,763, or -2,332, and a half, shifted: 48.7, and -63.3, which goes down
	for _, c := range []struct {
		level, bit int
		want       held
	}{
		{0, 1, held{[3]int{2175, 2048, 2048}, even, 40960}},
		{0, 0, held{[3]int{1920, 2048, 2048}, even, 40960}},
		{1, 1, held{[3]int{2175, 2175, 2048}, one, 41343}},
		{1, 0, held{[3]int{1920, 1920, 2048}, zero, 40320}},
		{2, 1, held{[3]int{2175, 2175, 2303}, one, 41343}},
		{2, 0, held{[3]int{1920, 1920, 1792}, zero, 40320}},
	} {
		for _, ask := range []bool{true, false} {
			m := New(c.level)
			if ask {
				m.Chance()
			}
			m.Learn(c.bit)
			if got := see(m, [contexts]int{1, 1, 7919}, 17); got != c.want {
				t.Errorf("level %d, bit %d, asked: %v: %v; want %v", c.level, c.bit, ask, got, c.want)
			}
		}
	}
}

func TestPlaces(t *testing.T) { // the words of the chapter: part, last, older, and the three contexts
	for _, c := range []struct {
		bits []int
		want [contexts]int
	}{
		{nil, [contexts]int{1, 1, 7919}},
		{[]int{0}, [contexts]int{2, 2, 15838}},
		{[]int{1}, [contexts]int{3, 3, 23757}},
		{[]int{1, 0, 1}, [contexts]int{13, 13, 37411}},
		{[]int{0, 0, 0, 0, 0, 0, 0}, [contexts]int{128, 128, 30592}},
		{[]int{1, 1, 1, 1, 1, 1, 1}, [contexts]int{255, 255, 53265}},
		{bitsOf(0), [contexts]int{1, 1, 7919}},
		{bitsOf(1), [contexts]int{1, 257, 48422}},
		{bitsOf(255), [contexts]int{1, 65281, 47032}},
		{bitsOf(1, 0), [contexts]int{1, 1, 21999}},
		{bitsOf('a', 'b'), [contexts]int{1, 25089, 34557}},
		{bitsOf('x', 'a', 'b'), [contexts]int{1, 25089, 34557}}, // what is farther back is forgotten
		{bitsOf('b', 'a'), [contexts]int{1, 24833, 8134}},
		{append(bitsOf('a', 'b'), 1, 1), [contexts]int{7, 25095, 16535}},
		{append(bitsOf(255, 255), 1, 1, 1, 1, 1, 1, 1), [contexts]int{255, 65535, 12762}},
	} {
		m := learnt(2, c.bits...)
		if got := m.places(); got != c.want {
			t.Errorf("behind %v: %v; want %v", c.bits, got, c.want)
		}
		before := [contexts]int{}
		for i, table := range m.by.tables {
			before[i] = table.At(c.want[i])
		}
		m.Learn(1)
		for i, table := range m.by.tables {
			if table.At(c.want[i]) <= before[i] {
				t.Errorf("behind %v: table %d does not learn at %d", c.bits, i, c.want[i])
			}
		}
	}
}

func TestLearnTurnsItsPlacesAlone(t *testing.T) { // P8.2: of each part, the tables', the mixer's and the stage's
	for level := range 3 {
		for _, bits := range [][]int{nil, {1, 0, 1}, bitsOf('a'), append(bitsOf('a', 'b'), 0, 1)} {
			m, same := learnt(level, bits...), learnt(level, bits...)
			m.Chance()
			m.Learn(1)
			at := same.places()
			for i, n := range []int{256, 65536, 65536} {
				for place := range n {
					turned := m.by.tables[i].At(place) != same.by.tables[i].At(place)
					if want := i <= level && place == at[i]; turned != want {
						t.Fatalf("level %d, behind %v: table %d at %d: %v; want %v", level, bits, i, place, turned, want)
					}
				}
			}
			for n := range 256 {
				mixer := !slices.Equal(m.by.Weights(n), same.by.Weights(n))
				steps := 0
				for step := range 33 {
					if m.by.Stage.At(n, step) != same.by.Stage.At(n, step) {
						steps++
					}
				}
				if want := level > 0 && n == at[0]; mixer != want || steps == 1 != want || steps > 1 {
					t.Fatalf("level %d, behind %v: set %d: %v, %d steps; want %v", level, bits, n, mixer, steps, want)
				}
			}
		}
	}
}

func TestModelOfAny(t *testing.T) { // P8.1, P8.2: against the words of chapters 5 to 8
	for seed := range 60 {
		l := luck(seed)
		level := l.below(5) - 1
		m, w := New(level), newByWords(level)
		for n, bit := range l.bits(1+l.below(5000), seed%5) {
			want := w.chance()
			for range l.below(3) { // not asked, once, or again
				if got := m.Chance(); got != want {
					t.Fatalf("seed %d, level %d: of bit %d: %d; want %d", seed, level, n, got, want)
				}
			}
			m.Learn(bit)
			w.learn(bit)
		}
		if got, want := m.Chance(), w.chance(); got != want {
			t.Fatalf("seed %d, level %d: in the end: %d; want %d", seed, level, got, want)
		}
		same(t, m, w)
	}
}

// same tells of a model that holds something else than the words of the chapters.
func same(t *testing.T, m *Model, w *modelByWords) {
	t.Helper()
	for at, v := range w.guesses {
		if got := m.by.tables[at.table].At(at.place); got != max(v/16, 1) {
			t.Fatalf("table %d at %d: %d; want that of %d", at.table, at.place, got, v)
		}
	}
	for n := range 256 {
		if got, want := m.by.Weights(n), w.set(n); [4]int(got) != want {
			t.Fatalf("set %d: %v; want %v", n, got, want)
		}
		for step := range 33 {
			if got, want := m.by.Stage.At(n, step), w.step(n, step); got != want {
				t.Fatalf("context %d, step %d: %d; want %d", n, step, got, want)
			}
		}
	}
}

func TestLongIsAsTheWordsSay(t *testing.T) { // P8.2: the same again and again, as far as guesses, weights and steps go
	for level := range 3 {
		for _, every := range []int{0, 1, 2, 9, 1000} { // zeros, ones, by turns, and a one among many zeros
			m, w := New(level), newByWords(level)
			for n := range 30000 {
				bit := 0
				if every > 0 && n%every == 0 {
					bit = 1
				}
				got, want := m.Chance(), w.chance()
				if got != want || got < 1 || got > 4095 {
					t.Fatalf("level %d, one of %d: of bit %d: %d; want %d", level, every, n, got, want)
				}
				m.Learn(bit)
				w.learn(bit)
			}
			same(t, m, w)
		}
	}
}

func TestAskedAgain(t *testing.T) { // P8.2: again it is the same, and asking turns nothing
	l := luck(2)
	for level := range 3 {
		m, never := New(level), New(level)
		for n, bit := range l.bits(3000, 3) {
			first := m.Chance()
			for range 3 {
				if got := m.Chance(); got != first {
					t.Fatalf("level %d, bit %d: %d, and asked again %d", level, n, first, got)
				}
			}
			m.Learn(bit)
			never.Learn(bit)
		}
		if a, b := m.Chance(), never.Chance(); a != b {
			t.Errorf("level %d: %d; never asked ahead: %d", level, a, b)
		}
	}
}

func TestOddBits(t *testing.T) { // P8.2: each bit that is not 0 is a one, to all that learn
	l := luck(3)
	for level := range 3 {
		for _, odd := range oddBits() {
			bits := l.bits(200, 3)
			m, want := New(level), New(level)
			for n, bit := range bits {
				if a, b := m.Chance(), want.Chance(); a != b {
					t.Fatalf("level %d, %d for a one: of bit %d: %d; want %d", level, odd, n, a, b)
				}
				m.Learn(bit * odd)
				want.Learn(bit)
			}
			if m.past != want.past {
				t.Errorf("level %d, %d for a one: %v; want %v", level, odd, m.past, want.past)
			}
		}
	}
}

func TestNilModel(t *testing.T) { // P8.2, R1
	var none *Model
	for _, bit := range append(oddBits(), 0, 1) {
		none.Learn(bit)
		if got := none.Chance(); got != 0 {
			t.Errorf("nil: %d", got)
		}
	}
}

func TestZeroModel(t *testing.T) { // R1: one that New has not made
	var zero Model
	for _, bit := range append(oddBits(), 0, 1) {
		zero.Learn(bit)
		if got := zero.Chance(); got != 0 {
			t.Errorf("zero: %d", got)
		}
	}
}

func TestNoMoreCalls(t *testing.T) { // the chapter's: what is embedded adds none, and so none that panics of nil
	m := reflect.TypeFor[*Model]()
	for i := range m.NumMethod() {
		if name := m.Method(i).Name; name != "Chance" && name != "Learn" {
			t.Errorf("Model has %s", name)
		}
	}
	if n := m.Elem().NumField(); n == 0 {
		t.Error("Model has nothing")
	}
	for i := range m.Elem().NumField() {
		if f := m.Elem().Field(i); f.IsExported() {
			t.Errorf("Model shows %s", f.Name)
		}
	}
}

func TestWhatLearnsTheSameTellsTheSame(t *testing.T) { // what follows
	for seed := range 20 {
		l := luck(seed)
		bits := l.bits(2000, seed%5)
		for level := range 3 {
			if !slices.Equal(told(New(level), bits...), told(New(level), bits...)) {
				t.Fatalf("seed %d, level %d: two tell chances that are not the same", seed, level)
			}
		}
	}
}

// cost is how many bits a coder would need about.
func cost(level int, bits []int) float64 {
	m, sum := New(level), 0.0
	for _, bit := range bits {
		p := float64(m.Chance()) / 4096
		if bit == 0 {
			p = 1 - p
		}
		sum -= math.Log2(p)
		m.Learn(bit)
	}
	return sum
}

func TestMoreLevelsGuessBetter(t *testing.T) { // what the levels are for
	l := luck(4)
	bits := l.bits(40000, 3)
	low, middle, high := cost(0, bits), cost(1, bits), cost(2, bits)
	if high > 0.9*middle || middle > 0.8*low || low > 0.8*40000 {
		t.Errorf("of 40,000 bits: %.0f at level 0, %.0f, and %.0f at level 2", low, middle, high)
	}
	for level := range 3 {
		if got := cost(level, l.bits(40000, 0)); got > 1.04*40000 {
			t.Errorf("level %d: %.0f of 40,000 bits that hang on nothing", level, got)
		}
	}
}

func TestModelsSideBySide(t *testing.T) { // R2: one hangs on no other
	a, b := New(2), New(2)
	for _, bit := range bitsOf('h', 'e', 'h', 'e') {
		a.Learn(bit)
	}
	if x, y := b.Chance(), New(2).Chance(); x != 2311 || y != 2311 {
		t.Errorf("beside another: %d, a new one: %d", x, y)
	}
	var join sync.WaitGroup
	for seed := range 8 {
		join.Go(func() {
			l := luck(seed)
			m, w := New(seed%3), newByWords(seed%3)
			for _, bit := range l.bits(2000, 3) {
				if m.Chance() != w.chance() {
					t.Errorf("seed %d: it hangs on what goes on beside it", seed)
					return
				}
				m.Learn(bit)
				w.learn(bit)
			}
		})
	}
	join.Wait()
}

func BenchmarkModel(b *testing.B) {
	for level, name := range []string{"level 0", "level 1", "level 2"} {
		b.Run(name, func(b *testing.B) {
			l := luck(5)
			bits := l.bits(1<<16, 3)
			m := New(level)
			for n := 0; b.Loop(); n++ {
				m.Chance()
				m.Learn(bits[n%len(bits)])
			}
		})
	}
}
