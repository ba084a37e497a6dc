package tracks

import (
	"bytes"
	"math"
	"slices"
	"sync"
	"testing"

	"valise/api"
)

// turns are the package's functions of pairs.
func turns() map[string]func(x, y []int32) ([]int32, []int32, api.Errno) {
	return map[string]func(x, y []int32) ([]int32, []int32, api.Errno){"Mid": Mid, "Unmid": Unmid}
}

// copied is a list of copies, each with its room.
func copied(lists [][]int32) [][]int32 {
	var out [][]int32
	for _, l := range lists {
		out = append(out, slices.Clone(l[:cap(l)])[:len(l)])
	}
	return out
}

// spoil turns each number, and the room behind them.
func spoil(lists ...[]int32) {
	for _, l := range lists {
		l = l[:cap(l)]
		for i := range l {
			l[i] = ^l[i]
		}
	}
}

func TestInputsStayAsTheyAre(t *testing.T) { // R3: with the room behind their ends, and the list of lists
	for seed := range 500 {
		l := luck(seed)
		bits := one(&l, 8, 16)
		b := l.bytes(200)
		before := bytes.Clone(b)
		Split(b[:96], one(&l, 1, 2, 3, 5), bits)
		lists := [][]int32{l.samples(50, 8)[:30], l.samples(40, 8)[:30], l.samples(30, 8), l.numbers(9)}
		whole := copied(lists)
		Join(bits, lists[:2]...)
		Join(bits, lists...)
		Mid(lists[0], lists[1])
		Unmid(lists[1], lists[2])
		Mid(lists[2], lists[3])
		for i := range lists {
			if !slices.Equal(lists[i][:cap(lists[i])], whole[i][:cap(lists[i])]) {
				t.Fatalf("seed %d: a list that was handed in is turned", seed)
			}
		}
		if !bytes.Equal(b, before) || !same(lists, whole) {
			t.Fatalf("seed %d: what was handed in is turned", seed)
		}
	}
}

func TestRoomIsNotRead(t *testing.T) { // R3: what is behind the end is not there
	b := []byte{1, 2, 3, 4, 5, 6, 7, 8}
	for n := range b {
		got, err := Split(b[:n], 2, 16)
		if want, fault := Split(bytes.Clone(b[:n:n]), 2, 16); !same(got, want) || err != fault {
			t.Errorf("the first %d bytes: %v, error %d; want %v, error %d", n, got, err, want, fault)
		}
	}
	x := []int32{1, 2, 3, 400}
	join(t, 8, x[:3], x[:3])
	if a, c, err := Mid(x[:2], x[:3]); err != api.ErrArg {
		t.Errorf("%v, %v, error %d", a, c, err)
	}
}

func TestSplitAnswersNewMemory(t *testing.T) { // R3: nothing is kept, and nothing shared, by two lists of an answer, too
	l := luck(6)
	for _, bits := range []int{8, 16} {
		b := l.bytes(160)
		in := bytes.Clone(b)
		got, _ := Split(in, 5, bits)
		want, _ := splitByWords(b, 5, bits)
		clear(in)
		if !same(got, want) {
			t.Errorf("%d bits: the answer hangs on what was handed in", bits)
		}
		copy(in, b)
		for i := range got {
			spoil(got[i])
			if !same(got[i+1:], want[i+1:]) {
				t.Errorf("%d bits: a list of the answer hangs on another one", bits)
			}
			got[i] = append(got[i], math.MaxInt32)
		}
		if !bytes.Equal(in, b) {
			t.Errorf("%d bits: what was handed in hangs on the answer", bits)
		}
		if got, _ := Split(in, 5, bits); !same(got, want) {
			t.Errorf("%d bits: an answer hangs on one that was given", bits)
		}
	}
}

func TestJoinAnswersNewMemory(t *testing.T) { // R3: nothing is kept, and nothing shared
	l := luck(7)
	for _, bits := range []int{8, 16} {
		lists := [][]int32{l.samples(40, bits), l.samples(40, bits)}
		in := copied(lists)
		got, _ := Join(bits, in...)
		want, _ := joinByWords(bits, lists...)
		spoil(in...)
		if !bytes.Equal(got, want) {
			t.Errorf("%d bits: the answer hangs on what was handed in", bits)
		}
		spoil(in...)
		clear(got[:cap(got)])
		if !same(in, lists) {
			t.Errorf("%d bits: what was handed in hangs on the answer", bits)
		}
		if got, _ := Join(bits, in...); !bytes.Equal(got, want) {
			t.Errorf("%d bits: an answer hangs on one that was given", bits)
		}
	}
}

func TestMidAnswersNewMemory(t *testing.T) { // R3: nothing is kept, and nothing shared, by the two lists of an answer, too
	l := luck(8)
	for name, call := range turns() {
		lists := [][]int32{l.numbers(40), l.numbers(40)}
		in := copied(lists)
		a, b, _ := call(in[0], in[1])
		want := copied([][]int32{a, b})
		spoil(in...)
		if !same([][]int32{a, b}, want) {
			t.Errorf("%s: the answer hangs on what was handed in", name)
		}
		spoil(in...)
		spoil(a)
		if !slices.Equal(b, want[1]) {
			t.Errorf("%s: a list of the answer hangs on the other one", name)
		}
		spoil(b)
		if !same(in, lists) {
			t.Errorf("%s: what was handed in hangs on the answer", name)
		}
		if a, b, _ := call(in[0], in[1]); !same([][]int32{a, b}, want) {
			t.Errorf("%s: an answer hangs on one that was given", name)
		}
	}
}

func TestMidOfZerosIsNewMemory(t *testing.T) { // R3: where nothing is turned, too
	x, none := []int32{0, 0, 0}, []int32{0, 0, 0}
	for name, call := range turns() {
		a, b, _ := call(x, none)
		spoil(a, b)
		if !slices.Equal(x, []int32{0, 0, 0}) || !slices.Equal(none, []int32{0, 0, 0}) {
			t.Errorf("%s: what was handed in hangs on the answer", name)
		}
	}
}

func TestNothingGoesOnBeside(t *testing.T) { // R2: calls at one time are answered as if each were alone
	l := luck(9)
	shared, lists, row := l.bytes(480), [][]int32{l.samples(80, 8), l.samples(80, 8), l.samples(80, 8)}, l.numbers(80)
	var wait sync.WaitGroup
	for worker := range 8 {
		wait.Go(func() {
			for seed := range 100 {
				l := luck(seed + worker)
				bits := one(&l, 8, 16)
				channels := one(&l, 1, 2, 3, 4, 5, 6, 7, 8, 9)
				got, err := Split(shared, channels, bits)
				if want, fault := splitByWords(shared, channels, bits); err != fault || !same(got, want) {
					t.Errorf("Split of %d channels, %d bits hangs on what goes on beside it", channels, bits)
				}
				b, err := Join(bits, lists...)
				if want, fault := joinByWords(bits, lists...); err != fault || !bytes.Equal(b, want) {
					t.Errorf("Join of %d bits hangs on what goes on beside it", bits)
				}
				m, s, _ := Mid(row, lists[0])
				if x, y, err := Unmid(m, s); err != api.OK || !same([][]int32{x, y}, [][]int32{row, lists[0]}) {
					t.Errorf("Mid or Unmid hangs on what goes on beside it")
				}
			}
		})
	}
	wait.Wait()
}

func BenchmarkTracks(b *testing.B) {
	l := luck(10)
	samples := l.bytes(api.MaxData)
	lists, _ := Split(samples, 2, 16)
	m, s, _ := Mid(lists[0], lists[1])
	for name, call := range map[string]func(){
		"Split":         func() { Split(samples, 2, 16) },
		"Split of many": func() { Split(samples, 8, 8) },
		"Join":          func() { Join(16, lists...) },
		"Mid":           func() { Mid(lists[0], lists[1]) },
		"Unmid":         func() { Unmid(m, s) },
	} {
		b.Run(name, func(b *testing.B) {
			b.SetBytes(api.MaxData)
			for b.Loop() {
				call()
			}
		})
	}
}

func FuzzSplit(f *testing.F) {
	f.Add([]byte{0x80, 0x81}, 1, 8)
	f.Add([]byte{0, 0x80, 0xff, 0x7f}, 2, 16)
	f.Add([]byte{1, 2, 3}, 2, 8)
	f.Fuzz(func(t *testing.T, b []byte, channels, bits int) {
		split(t, b, channels, bits)
	})
}

func FuzzJoin(f *testing.F) {
	f.Add([]byte{1, 0, 0, 0, 2, 0, 0, 0}, uint8(2), 8)
	f.Add([]byte{0, 0x80, 0, 0, 0, 0x80, 0xff, 0xff, 1, 0, 0, 0}, uint8(3), 16)
	f.Fuzz(func(t *testing.T, x []byte, channels uint8, bits int) {
		lists := make([][]int32, channels)
		next := 0
		for b := range slices.Chunk(x[:len(x)/4*4], 4) {
			if channels > 0 {
				lists[next] = append(lists[next], int32(uint32(b[0])|uint32(b[1])<<8|uint32(b[2])<<16|uint32(b[3])<<24))
				next = (next + 1) % len(lists)
			}
		}
		join(t, bits, lists...)
		if channels > 1 && len(lists[0]) == len(lists[1]) {
			hold(t, lists[0], lists[1])
		}
	})
}
