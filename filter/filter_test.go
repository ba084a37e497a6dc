package filter

import (
	"bytes"
	"sync"
	"testing"

	"valise/api"
)

// calls are all of the package's, of the same bytes; each answers some.
func calls() map[string]func(kind int, b, up []byte, planes int) []byte {
	return map[string]func(kind int, b, up []byte, planes int) []byte{
		"Row":   Row,
		"Unrow": Unrow,
		"Best": func(kind int, b, up []byte, planes int) []byte {
			return []byte{byte(Best(b, up, planes))}
		},
		"Apply": func(kind int, b, up []byte, planes int) []byte {
			x, _ := Apply(b, 6, planes)
			return x
		},
		"Undo": func(kind int, b, up []byte, planes int) []byte {
			x, _ := Undo(b, 5, planes)
			return x
		},
	}
}

// rows are bytes that all calls take: some rows of five bytes, each with a kind ahead of it, or of six.
func (l *luck) rows() []byte {
	b := l.bytes(60)
	for i := 0; i < len(b); i += 6 {
		b[i] = byte(l.below(5))
	}
	return b
}

func TestExample(t *testing.T) { // example 1
	if got := Paeth(1, 2, 3); got != 1 {
		t.Errorf("Paeth: %d; want 1", got)
	}
	if got := Row(1, []byte{5, 7}, nil, 1); !bytes.Equal(got, []byte{5, 2}) {
		t.Errorf("Row: %d; want 5 2", got)
	}
}

func TestInputsStayAsTheyAre(t *testing.T) { // R3: with the room behind their ends
	for seed := range 500 {
		l := luck(seed)
		b, up := append(l.rows(), l.bytes(20)...), l.bytes(80)
		in, above := bytes.Clone(b), bytes.Clone(up)
		for name, call := range calls() {
			for kind := range 6 {
				call(kind, in[:60], above[:70], 1+l.below(4))
				if !bytes.Equal(in, b) || !bytes.Equal(above, up) {
					t.Fatalf("%s, seed %d: what was handed in is turned", name, seed)
				}
			}
		}
	}
}

func TestRoomIsNotRead(t *testing.T) { // R3: what is behind the end is not there
	l := luck(8)
	b, up := l.rows(), l.bytes(60)
	for name, call := range calls() {
		for n := 0; n <= 60; n++ {
			for kind := range 6 {
				want := call(kind, bytes.Clone(b[:n:n]), bytes.Clone(up[:n/2:n/2]), 2)
				if got := call(kind, b[:n], up[:n/2], 2); !bytes.Equal(got, want) {
					t.Fatalf("%s of the first %d bytes: %.60x; want %.60x", name, n, got, want)
				}
			}
		}
	}
}

func TestAnswersAreNewMemory(t *testing.T) { // R3: nothing is kept, and nothing shared
	l := luck(9)
	for name, call := range calls() {
		for kind := range 6 {
			b, up := l.rows(), l.bytes(60)
			in, above := bytes.Clone(b), bytes.Clone(up)
			got := call(kind, in, above, 3)
			want := bytes.Clone(got)
			clear(in)
			clear(above)
			if !bytes.Equal(got, want) {
				t.Errorf("%s: the answer hangs on what was handed in", name)
			}
			copy(in, b)
			copy(above, up)
			got = got[:cap(got)]
			for i := range got {
				got[i] ^= 0xff
			}
			if !bytes.Equal(in, b) || !bytes.Equal(above, up) {
				t.Errorf("%s: what was handed in hangs on the answer", name)
			}
			if got := call(kind, in, above, 3); !bytes.Equal(got, want) {
				t.Errorf("%s: an answer hangs on one that was given", name)
			}
		}
	}
}

func TestAnswersOfZerosAreNewMemory(t *testing.T) { // R3: where nothing is turned, too
	for name, call := range calls() {
		in, above := make([]byte, 60), make([]byte, 60)
		got := call(0, in, above, 1)
		for i := range got {
			got[i] = 7
		}
		if !bytes.Equal(in, make([]byte, 60)) || !bytes.Equal(above, make([]byte, 60)) {
			t.Errorf("%s: what was handed in hangs on the answer", name)
		}
	}
}

func TestNothingGoesOnBeside(t *testing.T) { // R2: calls at one time are answered as if each were alone
	l := luck(10)
	shared, up := l.rows(), l.bytes(60)
	var join sync.WaitGroup
	for worker := range 8 {
		join.Go(func() {
			for seed := 0; seed < 100 && !t.Failed(); seed++ {
				l := luck(seed + worker)
				planes := 1 + l.below(4)
				if got, want := Row(3, shared, up, planes), rowByWords(3, shared, up, planes); !bytes.Equal(got, want) {
					t.Errorf("Row hangs on what goes on beside it")
				}
				if got, want := Unrow(4, shared, up, planes), unrowByWords(4, shared, up, planes); !bytes.Equal(got, want) {
					t.Errorf("Unrow hangs on what goes on beside it")
				}
				if Best(shared, up, planes) != bestByWords(shared, up, planes) {
					t.Errorf("Best hangs on what goes on beside it")
				}
				got, err := Apply(shared, 6, planes)
				if want, fault := applyByWords(shared, 6, planes); err != fault || !bytes.Equal(got, want) {
					t.Errorf("Apply hangs on what goes on beside it")
				}
				got, err = Undo(shared, 5, planes)
				if want, fault := undoByWords(shared, 5, planes); err != fault || !bytes.Equal(got, want) {
					t.Errorf("Undo hangs on what goes on beside it")
				}
			}
		})
	}
	join.Wait()
}

func BenchmarkFilter(b *testing.B) {
	l := luck(11)
	pixels := l.bytes(api.MaxData)
	wide, _ := Apply(pixels, 1024, 3)
	thin, _ := Apply(pixels, 1, 3)
	for name, call := range map[string]func(){
		"Apply":             func() { Apply(pixels, 1024, 3) },
		"Apply of thin":     func() { Apply(pixels, 1, 3) },
		"Undo":              func() { Undo(wide, 1024, 3) },
		"Undo of thin":      func() { Undo(thin, 1, 3) },
		"Best":              func() { Best(pixels, pixels, 4) },
		"Row by Paeth":      func() { Row(3, pixels, pixels, 4) },
		"Unrow by Paeth":    func() { Unrow(3, pixels, pixels, 4) },
		"Row by the middle": func() { Row(4, pixels, pixels, 4) },
	} {
		b.Run(name, func(b *testing.B) {
			b.SetBytes(api.MaxData)
			for b.Loop() {
				call()
			}
		})
	}
}

func FuzzRow(f *testing.F) {
	f.Add(1, []byte{5, 7}, []byte(nil), 1)
	f.Add(3, []byte{5, 7, 4}, []byte{1, 8, 4}, 2)
	f.Add(4, []byte{255, 255, 0}, []byte{255, 254}, 0)
	f.Fuzz(func(t *testing.T, kind int, row, up []byte, planes int) {
		hold(t, kind, row, up, planes)
		bestIs(t, row, up, planes, bestByWords(row, up, planes))
	})
}

func FuzzApply(f *testing.F) {
	f.Add([]byte{50, 50, 50, 50, 51, 51, 51, 51}, 4, 1)
	f.Add([]byte{9, 90, 9, 90, 0, 255}, 2, 2)
	f.Add([]byte{3, 90, 4, 90, 0, 255}, 1, 2)
	f.Fuzz(func(t *testing.T, b []byte, width, planes int) {
		apply(t, b, width, planes)
		undo(t, b, width, planes)
	})
}
