package wav

import (
	"bytes"
	"sync"
	"testing"

	"valise/api"
)

func TestInputsStayAsTheyAre(t *testing.T) { // R3: with the room behind their ends
	for seed := range 5000 {
		l := luck(seed)
		b := append(l.any(), filled("data", 1, 2, 3, 4)...)
		before := bytes.Clone(b)
		n := l.below(len(b) + 1)
		Parse(b[:n])
		Make(of(1+l.below(8), 8), b[:n])
		if !bytes.Equal(b, before) {
			t.Fatalf("seed %d: what was handed in is turned", seed)
		}
	}
}

func TestRoomIsNotRead(t *testing.T) { // P13.1, R3: what is behind the end is not there
	b := file(plain(1, 8), filled("data", 1, 2, 3, 4))
	for n := range b {
		want, is := Parse(bytes.Clone(b[:n:n]))
		if got, ok := Parse(b[:n]); got != want || ok != is {
			t.Errorf("the first %d bytes: %+v; want %+v", n, got, want)
		}
	}
}

func TestAnswersAreNewMemory(t *testing.T) { // R3: nothing is kept, and nothing shared
	samples := []byte("many samples, one behind the other")
	want := makeByWords(of(2, 16), samples)
	in := bytes.Clone(samples)
	b := Make(of(2, 16), in)
	clear(in)
	if !bytes.Equal(b, want) {
		t.Errorf("the answer hangs on what was handed in: %q", b)
	}
	copy(in, samples)
	clear(b[:cap(b)])
	if !bytes.Equal(in, samples) {
		t.Errorf("what was handed in hangs on the answer: %q", in)
	}
	if got := Make(of(2, 16), in); !bytes.Equal(got, want) {
		t.Errorf("an answer hangs on one that was given: %q", got)
	}
}

func TestNothingGoesOnBeside(t *testing.T) { // R2: calls at one time are answered as if each were alone
	shared := Make(of(3, 16), make([]byte, 1000))
	var join sync.WaitGroup
	for worker := range 8 {
		join.Go(func() {
			for seed := range 300 {
				l := luck(seed + worker)
				hold(t, l.any())
				hold(t, shared)
				made(t, of(1+l.below(9), 8+8*l.below(3)), shared)
			}
		})
	}
	join.Wait()
}

func BenchmarkWav(b *testing.B) {
	samples := make([]byte, api.MaxData)
	whole := Make(of(2, 16), samples)
	many := file(bytes.Repeat(chunk("LIST", 0), api.MaxData/8))
	for name, call := range map[string]func(){
		"Parse":              func() { Parse(whole) },
		"Parse of no file":   func() { Parse(samples) },
		"Parse of many ones": func() { Parse(many) },
		"Make":               func() { Make(of(2, 16), samples) },
	} {
		b.Run(name, func(b *testing.B) {
			b.SetBytes(api.MaxData)
			for b.Loop() {
				call()
			}
		})
	}
}

func FuzzParse(f *testing.F) {
	f.Add(Make(of(1, 8), []byte{1, 2}))
	f.Add(file(filled("LIST", 1), plain(2, 16), filled("data", 1, 2, 3, 4, 5)))
	f.Add(file(filled("fmt ", 1), plain(8, 16), chunk("data", 1<<32-1, make([]byte, 40)...)))
	f.Fuzz(func(t *testing.T, b []byte) {
		if hold(t, b) {
			w, _ := Parse(b)
			again := Make(w, b[w.From:w.To])
			found(t, "the same samples, made again", again, at(w.Channels, w.Bits, 44, 44+w.To-w.From))
		}
	})
}
