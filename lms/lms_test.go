package lms

import (
	"slices"
	"sync"
	"testing"
)

// calls are the package's functions of a row.
func calls() map[string]func([]int32) []int32 {
	return map[string]func([]int32) []int32{"Residual": Residual, "Restore": Restore}
}

func TestInputsStayAsTheyAre(t *testing.T) { // R3: with the room behind their ends
	l := luck(3)
	for kind := range kinds {
		row := l.numbers(230, kind)
		before := slices.Clone(row)
		for name, call := range calls() {
			call(row[:200])
			if !slices.Equal(row, before) {
				t.Errorf("%s, kind %d: what was handed in is turned", name, kind)
			}
		}
	}
}

func TestAnswersAreNewMemory(t *testing.T) { // R3: nothing is kept, and nothing shared
	l := luck(4)
	for kind := range kinds {
		row := l.numbers(200, kind)
		for name, call := range calls() {
			in := slices.Clone(row)
			out := call(in)
			want := slices.Clone(out)
			spoil(in)
			if !slices.Equal(out, want) {
				t.Errorf("%s, kind %d: the answer hangs on what was handed in", name, kind)
			}
			copy(in, row)
			spoil(out)
			if !slices.Equal(in, row) {
				t.Errorf("%s, kind %d: what was handed in hangs on the answer", name, kind)
			}
			if got := call(in); !slices.Equal(got, want) {
				t.Errorf("%s, kind %d: an answer hangs on one that was given", name, kind)
			}
		}
	}
}

// spoil turns each number, and the room behind them.
func spoil(l []int32) {
	l = l[:cap(l)]
	for i := range l {
		l[i] = ^l[i]
	}
}

func TestNothingGoesOnBeside(t *testing.T) { // R2: calls at one time are answered as if each were alone
	var join sync.WaitGroup
	for worker := range 8 {
		join.Go(func() {
			for seed := range 3 * kinds {
				l := luck(seed + worker)
				row := l.numbers(l.below(200), seed%kinds)
				left := Residual(row)
				if !slices.Equal(left, residualByWords(row)) || !slices.Equal(Restore(left), row) {
					t.Errorf("seed %d: an answer hangs on what goes on beside it", seed)
				}
			}
		})
	}
	join.Wait()
}

func BenchmarkLms(b *testing.B) {
	l := luck(5)
	row := l.numbers(1<<16, 7)
	left := Residual(row)
	for name, call := range map[string]func(){
		"Residual": func() { Residual(row) },
		"Restore":  func() { Restore(left) },
	} {
		b.Run(name, func(b *testing.B) {
			b.SetBytes(int64(4 * len(row)))
			for b.Loop() {
				call()
			}
		})
	}
}

func FuzzResidual(f *testing.F) {
	f.Add([]byte{1, 0, 0, 0, 1, 0, 0, 0})
	f.Add([]byte{0, 0, 0, 128, 0, 0, 0, 128, 255, 255, 255, 127})
	f.Fuzz(func(t *testing.T, x []byte) {
		var row []int32
		for b := range slices.Chunk(x[:len(x)/4*4], 4) {
			row = append(row, int32(uint32(b[0])|uint32(b[1])<<8|uint32(b[2])<<16|uint32(b[3])<<24))
		}
		hold(t, row)
	})
}
