package colour

import (
	"bytes"
	"sync"
	"testing"

	"valise/api"
)

// call is one of the package's.
type call func(b []byte, n int) []byte

// calls are all of them.
func calls() map[string]call {
	return map[string]call{
		"Turn":     func(b []byte, _ int) []byte { return Turn(b) },
		"Back":     func(b []byte, _ int) []byte { return Back(b) },
		"Apart":    Apart,
		"Together": Together,
	}
}

func TestExample(t *testing.T) { // example 1
	if got := Turn([]byte{5, 3, 4}); !bytes.Equal(got, []byte{2, 3, 1}) {
		t.Errorf("Turn: %d; want 2 3 1", got)
	}
	if got := Apart([]byte{1, 2, 3, 4, 5}, 2); !bytes.Equal(got, []byte{1, 3, 2, 4, 5}) {
		t.Errorf("Apart: %d; want 1 3 2 4 5", got)
	}
}

func TestInputsStayAsTheyAre(t *testing.T) { // R3: with the room behind their ends
	for seed := range 500 {
		l := luck(seed)
		b := l.bytes(80)
		in := bytes.Clone(b)
		size, n := l.below(81), l.planes()
		for name, call := range calls() {
			call(in[:size], n)
			if !bytes.Equal(in, b) {
				t.Fatalf("%s of %d bytes, %d: what was handed in is turned", name, size, n)
			}
		}
	}
}

func TestRoomIsNotRead(t *testing.T) { // R3: what is behind the end is not there
	l := luck(5)
	b := l.bytes(70)
	for name, call := range calls() {
		for size := range len(b) + 1 {
			for _, n := range []int{0, 1, 2, 3, 7, 16, 17} {
				want := call(bytes.Clone(b[:size:size]), n)
				if got := call(b[:size], n); !bytes.Equal(got, want) {
					t.Fatalf("%s of the first %d bytes, %d: %.60x; want %.60x", name, size, n, got, want)
				}
			}
		}
	}
}

func TestAnswersAreNewMemory(t *testing.T) { // R3: nothing is kept, and nothing shared; where nothing is turned, too
	l := luck(6)
	for name, call := range calls() {
		for _, size := range []int{1, 2, 3, 5, 16, 60, 61} {
			for _, n := range []int{-1, 0, 1, 2, 3, 16, 17} {
				for _, b := range [][]byte{l.bytes(size), make([]byte, size)} {
					fresh(t, name, call, b, n)
				}
			}
		}
	}
}

// fresh fails if the answer of b, or of what stands behind its end, is the memory that was handed in, or that of another answer.
func fresh(t *testing.T, name string, call call, b []byte, n int) {
	t.Helper()
	in := bytes.Clone(b)
	got := call(in, n)
	want := bytes.Clone(got)
	for i := range in {
		in[i] ^= 0xff
	}
	if !bytes.Equal(got, want) {
		t.Errorf("%s of %.60x, %d: the answer hangs on what was handed in", name, b, n)
	}
	copy(in, b)
	got = got[:cap(got)]
	for i := range got {
		got[i] ^= 0xff
	}
	if !bytes.Equal(in, b) {
		t.Errorf("%s of %.60x, %d: what was handed in hangs on the answer", name, b, n)
	}
	if got := call(in, n); !bytes.Equal(got, want) {
		t.Errorf("%s of %.60x, %d: an answer hangs on one that was given", name, b, n)
	}
}

func TestNothingGoesOnBeside(t *testing.T) { // R2: calls at one time are answered as if each were alone
	l := luck(7)
	shared := l.bytes(101)
	words := map[string]call{
		"Turn":     func(b []byte, _ int) []byte { return turnByWords(b) },
		"Back":     func(b []byte, _ int) []byte { return backByWords(b) },
		"Apart":    apartByWords[byte],
		"Together": togetherByWords,
	}
	var join sync.WaitGroup
	for worker := range 8 {
		join.Go(func() {
			for seed := 0; seed < 100 && !t.Failed(); seed++ {
				l := luck(seed + worker)
				own, n := l.bytes(l.below(60)), l.planes()
				for name, call := range calls() {
					if !bytes.Equal(call(shared, n), words[name](shared, n)) || !bytes.Equal(call(own, n), words[name](own, n)) {
						t.Errorf("%s hangs on what goes on beside it", name)
					}
				}
			}
		})
	}
	join.Wait()
}

func BenchmarkColour(b *testing.B) {
	l := luck(8)
	pixels := l.bytes(api.MaxData)
	for name, call := range map[string]func(){
		"Turn":             func() { Turn(pixels) },
		"Back":             func() { Back(pixels) },
		"Apart of 3":       func() { Apart(pixels, 3) },
		"Apart of 16":      func() { Apart(pixels, 16) },
		"Together of 3":    func() { Together(pixels, 3) },
		"Together of 16":   func() { Together(pixels, 16) },
		"Apart of a plane": func() { Apart(pixels, 1) },
	} {
		b.Run(name, func(b *testing.B) {
			b.SetBytes(api.MaxData)
			for b.Loop() {
				call()
			}
		})
	}
}

func FuzzColour(f *testing.F) {
	f.Add([]byte{5, 3, 4}, 2)
	f.Add([]byte{1, 2, 3, 4, 5}, 2)
	f.Add([]byte{255, 1, 0, 0, 255, 1, 128}, 3)
	f.Add([]byte(nil), -1)
	f.Fuzz(func(t *testing.T, b []byte, n int) {
		turned(t, b)
		parted(t, b, n)
	})
}
