package image

import (
	"bytes"
	"sync"
	"testing"

	"valise/api"
	"valise/picture"
)

func TestInputsStayAsTheyAre(t *testing.T) { // R3: with the room behind their ends
	for name, shade := range shades() {
		for _, s := range []shape{{5, 6, 1}, {4, 6, 3}} {
			l := luck(9)
			for _, b := range odd(s, l.pixels(s, shade)) {
				b = append(b, l.bytes(40)...)
				n := len(b) - 30
				before := bytes.Clone(b)
				x, _ := Pack(b[:n])
				if !bytes.Equal(b, before) {
					t.Fatalf("%s: what was handed to Pack is turned", name)
				}
				x = append(x, l.bytes(40)...)
				before = bytes.Clone(x)
				Unpack(x[:len(x)-40], n)
				Unpack(x[:len(x)-50], n)
				Unpack(x, n)
				if !bytes.Equal(x, before) {
					t.Fatalf("%s: what was handed to Unpack is turned", name)
				}
			}
		}
	}
}

func TestRoomIsNotRead(t *testing.T) { // R3: what is behind the end is not there
	s := shape{3, 7, 3}
	l := luck(10)
	for _, b := range [][]byte{bmp(s, 54, "\x00\x00\x00", l.bytes(63)), pnm(s, l.bytes(63))} {
		whole := append(bytes.Clone(b), b...)
		for n := range b {
			x, is := Pack(whole[:n])
			if y, ok := Pack(bytes.Clone(b[:n:n])); ok != is || !bytes.Equal(x, y) {
				t.Errorf("the first %d bytes are packed otherwise, where others follow", n)
			}
		}
		x, _ := Pack(b)
		for n := range x {
			wrong(t, "the first bytes", x[:n])
		}
	}
}

func TestAnswersAreNewMemory(t *testing.T) { // R3: nothing is kept, and nothing shared
	for _, s := range []shape{{5, 6, 1}, {4, 6, 3}} {
		l := luck(11)
		for _, b := range odd(s, l.bytes(s.width*s.height*s.planes)) {
			fresh(t, b)
		}
	}
}

// fresh fails if what b is packed to, or what that is unpacked to, is the memory that was handed in, or that of another answer.
func fresh(t *testing.T, b []byte) {
	t.Helper()
	in := bytes.Clone(b)
	x, _ := Pack(in)
	want := bytes.Clone(x)
	clear(in)
	if !bytes.Equal(x, want) {
		t.Error("what is packed hangs on what was handed in")
	}
	copy(in, b)
	clear(x[:cap(x)])
	if again, _ := Pack(in); !bytes.Equal(in, b) || !bytes.Equal(again, want) {
		t.Error("what was handed in, or what is packed, hangs on an answer")
	}
	copy(x, want)
	y, _ := Unpack(x, len(b))
	clear(x)
	if !bytes.Equal(y, b) {
		t.Error("what is unpacked hangs on what was handed in")
	}
	copy(x, want)
	clear(y[:cap(y)])
	if again, err := Unpack(x, len(b)); !bytes.Equal(x, want) || err != api.OK || !bytes.Equal(again, b) {
		t.Error("what was handed in, or what is unpacked, hangs on an answer")
	}
}

func TestNothingGoesOnBeside(t *testing.T) { // R2: calls at one time are answered as if each were alone
	l := luck(12)
	s := shape{20, 10, 3}
	shared := bmp(s, 54, "\x00\x00\x00", l.bytes(600))
	want, _ := Pack(shared)
	var join sync.WaitGroup
	for worker := range 8 {
		join.Go(func() {
			l := luck(worker)
			for range 100 {
				s := shape{1 + l.below(20), 1 + l.below(20), one(&l, 1, 3)}
				b := pnm(s, l.pixels(s, shades()[one(&l, "across", "soft", "noise")]))
				x, is := Pack(b)
				y, err := Unpack(x, len(b))
				if !is || err != api.OK || !bytes.Equal(y, b) {
					t.Errorf("a file hangs on what goes on beside it: error %d", err)
				}
				if x, _ := Pack(shared); !bytes.Equal(x, want) {
					t.Error("Pack hangs on what goes on beside it")
				}
				if y, _ := Unpack(want, len(shared)); !bytes.Equal(y, shared) {
					t.Error("Unpack hangs on what goes on beside it")
				}
			}
		})
	}
	join.Wait()
}

func TestPartsComeBack(t *testing.T) { // P19.1: each part that is embedded turns back what it turns
	for name, shade := range shades() {
		for _, s := range []shape{{1, 1, 1}, {8, 5, 1}, {1, 4, 3}, {7, 5, 3}} {
			l := luck(14)
			pixels := l.pixels(s, shade)
			p := packerOf(api.Picture{Width: s.width, Height: s.height, Planes: s.planes})
			kinds, left := p.apply(pixels)
			if back, err := p.undo(kinds, left); err != api.OK || !bytes.Equal(back, pixels) || len(kinds) != s.height {
				t.Errorf("%s, %s: filtered, %x comes back as %x, error %d", name, s, pixels, back, err)
			}
			if back := p.back(p.turn(pixels)); !bytes.Equal(back, pixels) {
				t.Errorf("%s, %s: turned, %x comes back as %x", name, s, pixels, back)
			}
			if back := p.together(p.apart(pixels)); !bytes.Equal(back, pixels) {
				t.Errorf("%s, %s: told apart, %x comes back as %x", name, s, pixels, back)
			}
		}
	}
}

func BenchmarkImage(b *testing.B) {
	for _, s := range []shape{{1023, 1024, 1}, {682, 512, 3}} {
		for _, name := range []string{"soft", "noise"} {
			l := luck(13)
			file := pnm(s, l.pixels(s, shades()[name]))
			x, _ := Pack(file)
			for call, run := range map[string]func(){
				"Pack":   func() { Pack(file) },
				"Unpack": func() { Unpack(x, len(file)) },
			} {
				b.Run(call+" of "+name+", "+s.String(), func(b *testing.B) {
					b.SetBytes(int64(len(file)))
					for b.Loop() {
						run()
					}
				})
			}
		}
	}
}

func FuzzPack(f *testing.F) {
	for _, s := range []shape{{1, 1, 1}, {3, 2, 3}} {
		l := luck(15)
		for _, b := range odd(s, l.bytes(s.width*s.height*s.planes)) {
			f.Add(b)
		}
	}
	f.Fuzz(func(t *testing.T, b []byte) {
		if _, is := picture.Parse(b); is {
			whole(t, "any", b)
		} else {
			refused(t, "any", b)
		}
	})
}

func FuzzUnpack(f *testing.F) {
	for _, s := range []shape{{1, 1, 1}, {4, 3, 1}, {3, 2, 3}} {
		l := luck(16)
		for _, b := range odd(s, l.pixels(s, shades()["soft"])) {
			x, _ := Pack(b)
			f.Add(x, 1000)
		}
	}
	f.Fuzz(func(t *testing.T, x []byte, most int) {
		hold(t, x, most)
	})
}
