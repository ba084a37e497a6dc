package fixed

import (
	"slices"
	"sync"
	"testing"
)

func TestInputsStayAsTheyAre(t *testing.T) { // R3: with the room behind their ends
	l := luck(3)
	for kind := range kinds {
		row := l.numbers(230, kind)
		before := slices.Clone(row)
		for order := -1; order < 5; order++ {
			Residual(row[:200], order)
			Restore(row[:200], order)
		}
		Weight(row[:200])
		Best(row[:200])
		if !slices.Equal(row, before) {
			t.Errorf("kind %d: what was handed in is turned", kind)
		}
	}
}

func TestAnswersAreNewMemory(t *testing.T) { // R3: nothing is kept, and nothing shared
	l := luck(4)
	for kind := range kinds {
		row := l.numbers(200, kind)
		for order := -1; order < 5; order++ {
			for name, call := range map[string]func([]int32, int) []int32{"Residual": Residual, "Restore": Restore} {
				in := slices.Clone(row)
				out := call(in, order)
				want := slices.Clone(out)
				spoil(in)
				if !slices.Equal(out, want) {
					t.Errorf("%s, kind %d, %d: the answer hangs on what was handed in", name, kind, order)
				}
				copy(in, row)
				spoil(out)
				if !slices.Equal(in, row) {
					t.Errorf("%s, kind %d, %d: what was handed in hangs on the answer", name, kind, order)
				}
				if got := call(in, order); !slices.Equal(got, want) {
					t.Errorf("%s, kind %d, %d: an answer hangs on one that was given", name, kind, order)
				}
			}
		}
	}
}

// spoil turns each number, and the room behind them.
func spoil(l []int32) {
	l = l[:cap(l)]
	for i := range l {
		l[i] = ^l[i]
	}
}

func TestNothingGoesOnBeside(t *testing.T) { // R2: calls at one time are answered as if each were alone
	var join sync.WaitGroup
	for worker := range 8 {
		join.Go(func() {
			for seed := range 40 {
				l := luck(seed + worker)
				row := l.numbers(l.below(200), seed%kinds)
				order := worker % 4
				left := Residual(row, order)
				if !slices.Equal(left, residualByWords(row, order)) || !slices.Equal(Restore(left, order), row) {
					t.Errorf("seed %d: an answer hangs on what goes on beside it", seed)
				}
				if Best(row) != bestByWords(row) {
					t.Errorf("seed %d: Best hangs on what goes on beside it", seed)
				}
			}
		})
	}
	join.Wait()
}

func BenchmarkFixed(b *testing.B) {
	l := luck(5)
	row := l.numbers(1<<16, 6)
	left := Residual(row, 3)
	for name, call := range map[string]func(){
		"Residual": func() { Residual(row, 3) },
		"Restore":  func() { Restore(left, 3) },
		"Best":     func() { Best(row) },
	} {
		b.Run(name, func(b *testing.B) {
			b.SetBytes(int64(4 * len(row)))
			for b.Loop() {
				call()
			}
		})
	}
}

func FuzzResidual(f *testing.F) {
	f.Add([]byte{5, 0, 0, 0, 7, 0, 0, 0, 9, 0, 0, 0}, 2)
	f.Add([]byte{0, 0, 0, 128, 255, 255, 255, 127}, 3)
	f.Fuzz(func(t *testing.T, x []byte, order int) {
		var row []int32
		for b := range slices.Chunk(x[:len(x)/4*4], 4) {
			row = append(row, int32(uint32(b[0])|uint32(b[1])<<8|uint32(b[2])<<16|uint32(b[3])<<24))
		}
		hold(t, row, order)
		holdWeight(t, row)
		holdBest(t, row)
	})
}
