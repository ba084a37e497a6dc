package colour

import (
	"bytes"
	"testing"

	"valise/api"
)

// turned fails unless b is turned, both ways, as the chapter's words say, and turned back.
func turned(t *testing.T, b []byte) {
	t.Helper()
	x, y := Turn(b), Back(b)
	if want := turnByWords(b); !bytes.Equal(x, want) {
		t.Fatalf("Turn of %.60x: %.60x; want %.60x", b, x, want)
	}
	if want := backByWords(b); !bytes.Equal(y, want) {
		t.Fatalf("Back of %.60x: %.60x; want %.60x", b, y, want)
	}
	if again := Back(x); !bytes.Equal(again, b) {
		t.Fatalf("%.60x, turned, and back: %.60x", b, again)
	}
	if again := Turn(y); !bytes.Equal(again, b) {
		t.Fatalf("%.60x, back, and turned: %.60x", b, again)
	}
}

func TestTurnOfKnown(t *testing.T) { // P18.1
	for _, c := range []struct{ b, want []byte }{
		{[]byte{5, 3, 4}, []byte{2, 3, 1}}, // example 1
		{[]byte{0, 0, 0}, []byte{0, 0, 0}},
		{[]byte{7, 7, 7}, []byte{0, 7, 0}},
		{[]byte{0, 1, 0}, []byte{255, 1, 255}},
		{[]byte{0, 255, 0}, []byte{1, 255, 1}},
		{[]byte{255, 255, 255}, []byte{0, 255, 0}},
		{[]byte{255, 0, 255}, []byte{255, 0, 255}},
		{[]byte{0, 128, 128}, []byte{128, 128, 0}},
		{[]byte{128, 0, 0}, []byte{128, 0, 0}},
		{[]byte{127, 128, 129}, []byte{255, 128, 1}},
		{[]byte{3, 4, 5}, []byte{255, 4, 1}},
		{[]byte{0, 255, 1, 254, 1, 0}, []byte{1, 255, 2, 253, 1, 255}},
		{[]byte{5, 3, 4, 9, 5, 1, 8}, []byte{2, 3, 1, 4, 5, 252, 8}},
		{[]byte{5, 3, 4, 9, 5}, []byte{2, 3, 1, 9, 5}},
	} {
		if got := Turn(c.b); !bytes.Equal(got, c.want) {
			t.Errorf("Turn of %d: %d; want %d", c.b, got, c.want)
		}
		if got := Back(c.want); !bytes.Equal(got, c.b) {
			t.Errorf("Back of %d: %d; want %d", c.want, got, c.b)
		}
	}
}

func TestTurnOfEachByte(t *testing.T) { // P18.1: going round at 256, whatever the byte and its green
	for green := range 256 {
		for v := range 256 {
			turned(t, []byte{byte(v), byte(green), 3})
			turned(t, []byte{3, byte(green), byte(v)})
			turned(t, []byte{byte(v), byte(green), byte(255 - v)})
		}
	}
}

func TestTurnOfAny(t *testing.T) { // P18.1, what follows
	for seed := range 5000 {
		l := luck(seed)
		turned(t, l.bytes(l.below(100)))
	}
}

func TestTurnOfLengths(t *testing.T) { // P18.1: as far as there are three
	l := luck(1)
	b := l.bytes(1000)
	for n := range len(b) + 1 {
		turned(t, b[:n:n])
		turned(t, b[len(b)-n:])
	}
}

func TestTurnLeavesTheRest(t *testing.T) { // P18.1: what is left, and the green, is as it was
	for n := range 40 {
		b := bytes.Repeat([]byte{200}, n)
		for name, call := range map[string]func([]byte) []byte{"Turn": Turn, "Back": Back} {
			got := call(b)
			for i, v := range got {
				whole := i/3*3+2 < n
				if (!whole || i%3 == 1) != (v == 200) {
					t.Errorf("%s of %d bytes: place %d is %d", name, n, i, v)
				}
			}
			if len(got) != n {
				t.Errorf("%s of %d bytes: %d of them", name, n, len(got))
			}
		}
	}
}

func TestTurnOfGrey(t *testing.T) { // P18.1: nothing is left of a pixel without a colour but its green
	for v := range 256 {
		g := byte(v)
		if got := Turn([]byte{g, g, g, g, g, g}); !bytes.Equal(got, []byte{0, g, 0, 0, g, 0}) {
			t.Errorf("Turn of the grey %d: %d", g, got)
		}
		if got := Back([]byte{0, g, 0, 0, g, 0}); !bytes.Equal(got, []byte{g, g, g, g, g, g}) {
			t.Errorf("Back of the grey %d: %d", g, got)
		}
	}
}

func TestTurnOfEachPixelAlone(t *testing.T) { // P18.1: no pixel hangs on another one
	l := luck(2)
	b := l.bytes(302)
	there, back := Turn(b), Back(b)
	for i := 0; i+3 <= len(b); i += 3 {
		if !bytes.Equal(there[i:i+3], Turn(b[i:i+3])) || !bytes.Equal(back[i:i+3], Back(b[i:i+3])) {
			t.Errorf("the pixel from place %d on hangs on others", i)
		}
	}
}

func TestTurnOfNothing(t *testing.T) { // P18.1, R3: no bytes are none
	for _, b := range [][]byte{nil, {}, make([]byte, 0, 9)} {
		if x, y := Turn(b), Back(b); len(x) != 0 || len(y) != 0 {
			t.Errorf("of nothing: %x, %x", x, y)
		}
	}
}

func TestTurnOfMany(t *testing.T) { // P18.1: no length is too great
	l := luck(3)
	for _, n := range []int{api.MaxData - 1, api.MaxData, api.MaxData + 1, 3*api.MaxData + 2} {
		turned(t, l.bytes(n))
	}
}
