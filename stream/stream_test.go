package stream

import (
	"bytes"
	"sync"
	"testing"

	"valise/api"
)

// roomy is b with room behind its end, in which there is something.
func roomy(b []byte) (in, all []byte) {
	all = append(bytes.Clone(b), "behind"...)
	return all[:len(b)], all
}

func TestInputsStayAsTheyAre(t *testing.T) { // R3: with the room behind their ends
	l := luck(3)
	for level := range api.Levels {
		b, all := roomy(l.bytes(300, 3))
		before := bytes.Clone(all)
		x, allx := roomy(packed(t, b, level))
		beforex := bytes.Clone(allx)
		Unpack(x, len(b), level)
		Unpack(x, len(b)+1, level)
		Unpack(x[:len(x)-1], len(b), level)
		if !bytes.Equal(all, before) || !bytes.Equal(allx, beforex) {
			t.Errorf("level %d: what was handed in is turned", level)
		}
	}
}

func TestAnswersAreNewMemory(t *testing.T) { // R3: nothing is kept, and nothing shared
	l := luck(4)
	b := l.bytes(300, 3)
	for level := range api.Levels {
		in := bytes.Clone(b)
		x := packed(t, in, level)
		want := bytes.Clone(x)
		clear(in)
		if !bytes.Equal(x, want) {
			t.Errorf("level %d: what is packed hangs on what was handed in", level)
		}
		clear(x[:cap(x)])
		if got := packed(t, b, level); !bytes.Equal(got, want) {
			t.Errorf("level %d: an answer hangs on one that was given", level)
		}
		x = bytes.Clone(want)
		out, _ := Unpack(x, len(b), level)
		clear(x)
		if !bytes.Equal(out, b) {
			t.Errorf("level %d: what is unpacked hangs on what was handed in", level)
		}
		clear(out[:cap(out)])
		if got, e := Unpack(want, len(b), level); e != api.OK || !bytes.Equal(got, b) {
			t.Errorf("level %d: an answer hangs on one that was given", level)
		}
	}
}

func TestCallsSideBySide(t *testing.T) { // R2: one hangs on no other
	var join sync.WaitGroup
	for seed := range 8 {
		join.Go(func() {
			l := luck(seed)
			for range 20 {
				b := l.bytes(l.below(300), l.below(kinds))
				level := l.below(api.Levels)
				x, e := Pack(b, level)
				if want := packByWords(b, level); e != api.OK || !bytes.Equal(x, want) {
					t.Errorf("seed %d: Pack hangs on what goes on beside it", seed)
				}
				got, e := Unpack(x, len(b), level)
				if e != api.OK || !bytes.Equal(got, b) {
					t.Errorf("seed %d: Unpack hangs on what goes on beside it", seed)
				}
			}
		})
	}
	join.Wait()
}

func BenchmarkStream(b *testing.B) {
	for level, name := range []string{"level 0", "level 1", "level 2"} {
		l := luck(5)
		text := l.bytes(1<<16, 3)
		x, _ := Pack(text, level)
		b.Run("Pack, "+name, func(b *testing.B) {
			b.SetBytes(int64(len(text)))
			for b.Loop() {
				Pack(text, level)
			}
		})
		b.Run("Unpack, "+name, func(b *testing.B) {
			b.SetBytes(int64(len(text)))
			for b.Loop() {
				Unpack(x, len(text), level)
			}
		})
	}
}

func FuzzUnpack(f *testing.F) {
	f.Add([]byte{0, 0, 0, 0}, 0, 0)
	f.Add([]byte{0xb2, 0xab, 0xa5, 0xeb}, 1, 2)
	f.Fuzz(func(t *testing.T, x []byte, n, level int) {
		b, e := Unpack(x, n, level)
		switch e {
		case api.OK:
			if again, e := Pack(b, level); e != api.OK || len(b) != n || !bytes.Equal(again, x) {
				t.Errorf("%x: taken, but it is not what is packed", x)
			}
		case api.ErrForm, api.ErrArg, api.ErrLimit:
			if b != nil {
				t.Errorf("%x: bytes beside error %d", x, e)
			}
		default:
			t.Errorf("%x: error %d", x, e)
		}
		if len(x) <= 4096 && level >= 0 && level < api.Levels {
			packed, _ := Pack(x, level)
			if again, e := Unpack(packed, len(x), level); e != api.OK || !bytes.Equal(again, x) {
				t.Errorf("%x: what is packed is not unpacked", x)
			}
		}
	})
}
