package rice

import (
	"bytes"
	"slices"
	"sync"
	"testing"

	"valise/api"
)

func TestInputsStayAsTheyAre(t *testing.T) { // R3: with the room behind their ends
	l := luck(3)
	for kind := range kinds {
		row := l.numbers(230, kind)
		before := slices.Clone(row)
		x := append(packed(t, row[:200]), "behind"...)
		beforex := bytes.Clone(x)
		end := len(x) - len("behind")
		Cost(row[:200], 3)
		Best(row[:200])
		Unpack(x[:end], 200)
		Unpack(x[:end], 201)
		Unpack(x[:end-1], 200)
		if !slices.Equal(row, before) || !bytes.Equal(x, beforex) {
			t.Errorf("kind %d: what was handed in is turned", kind)
		}
	}
}

func TestAnswersAreNewMemory(t *testing.T) { // R3: nothing is kept, and nothing shared
	l := luck(4)
	for kind := range kinds {
		row := l.numbers(200, kind)
		in := slices.Clone(row)
		x := packed(t, in)
		want := bytes.Clone(x)
		clear(in)
		if !bytes.Equal(x, want) {
			t.Errorf("kind %d: what is packed hangs on what was handed in", kind)
		}
		clear(x[:cap(x)])
		if got := packed(t, row); !bytes.Equal(got, want) {
			t.Errorf("kind %d: an answer hangs on one that was given", kind)
		}
		x = bytes.Clone(want)
		out, _ := Unpack(x, len(row))
		clear(x)
		if !slices.Equal(out, row) {
			t.Errorf("kind %d: what is unpacked hangs on what was handed in", kind)
		}
		clear(out[:cap(out)])
		expect(t, want, len(row), row, true)
	}
}

func TestNothingGoesOnBeside(t *testing.T) { // R2: calls at one time are answered as if each were alone
	var join sync.WaitGroup
	for worker := range 8 {
		join.Go(func() {
			for seed := range 40 {
				l := luck(seed + worker)
				row := l.numbers(l.below(200), seed%kinds)
				x, e := Pack(row)
				if e != api.OK || !bytes.Equal(x, packByWords(row)) {
					t.Errorf("seed %d: Pack hangs on what goes on beside it", seed)
				}
				got, e := Unpack(x, len(row))
				if e != api.OK || !slices.Equal(got, row) {
					t.Errorf("seed %d: Unpack hangs on what goes on beside it", seed)
				}
			}
		})
	}
	join.Wait()
}

func BenchmarkRice(b *testing.B) {
	l := luck(5)
	row := l.numbers(1<<16, 5)
	x, _ := Pack(row)
	b.Run("Pack", func(b *testing.B) {
		b.SetBytes(int64(4 * len(row)))
		for b.Loop() {
			Pack(row)
		}
	})
	b.Run("Unpack", func(b *testing.B) {
		b.SetBytes(int64(4 * len(row)))
		for b.Loop() {
			Unpack(x, len(row))
		}
	})
}

func FuzzUnpack(f *testing.F) {
	f.Add([]byte{0}, 1)
	f.Add([]byte{0x07, 0xff, 0xff, 0xff, 0xff, 0xff, 0xff, 0xf0}, 4)
	f.Fuzz(func(t *testing.T, x []byte, n int) {
		l, e := Unpack(x, n)
		switch e {
		case api.OK:
			if again, e := Pack(l); e != api.OK || len(l) != n || !bytes.Equal(again, x) {
				t.Errorf("%x: taken, but it is not what is packed", x)
			}
		case api.ErrForm, api.ErrArg, api.ErrLimit:
			if l != nil {
				t.Errorf("%x: numbers beside error %d", x, e)
			}
		default:
			t.Errorf("%x: error %d", x, e)
		}
		if n >= 0 && n <= 300 {
			hold(t, x, n)
		}
	})
}
