package table

import (
	"bytes"
	"testing"

	"valise/api"
)

// lessened fails unless b is turned, both ways, as the chapter's words say, and turned back.
func lessened(t *testing.T, b []byte, width int) {
	t.Helper()
	x, y := Delta(b, width), Undelta(b, width)
	if want := deltaByWords(b, width); !bytes.Equal(x, want) {
		t.Fatalf("Delta of %.60x, %d: %.60x; want %.60x", b, width, x, want)
	}
	if want := undeltaByWords(b, width); !bytes.Equal(y, want) {
		t.Fatalf("Undelta of %.60x, %d: %.60x; want %.60x", b, width, y, want)
	}
	thereAndBack(t, b, width)
}

// thereAndBack fails unless b is what it was, lessened and back, and the other way round.
func thereAndBack(t *testing.T, b []byte, width int) {
	t.Helper()
	if again := Undelta(Delta(b, width), width); !bytes.Equal(again, b) {
		t.Fatalf("%.60x by %d, lessened, and back: %.60x", b, width, again)
	}
	if again := Delta(Undelta(b, width), width); !bytes.Equal(again, b) {
		t.Fatalf("%.60x by %d, back, and lessened: %.60x", b, width, again)
	}
}

func TestDeltaOfKnown(t *testing.T) { // P20.2
	for _, c := range []struct {
		b     []byte
		width int
		want  []byte
	}{
		{[]byte{5, 7}, 1, []byte{5, 2}}, // example 1
		{[]byte{5, 7, 4}, 1, []byte{5, 2, 253}},
		{[]byte{5, 7, 4, 9}, 2, []byte{5, 7, 255, 2}},
		{[]byte{5, 7, 4, 9}, 3, []byte{5, 7, 4, 4}},
		{[]byte{5, 7, 4, 9}, 4, []byte{5, 7, 4, 9}},
		{[]byte{5, 7, 4, 9}, 5, []byte{5, 7, 4, 9}},
		{[]byte{5, 7, 4, 9}, most, []byte{5, 7, 4, 9}},
		{[]byte{5, 7, 4, 9}, 0, []byte{5, 2, 253, 5}},
		{[]byte{5, 7, 4, 9}, -1, []byte{5, 2, 253, 5}},
		{[]byte{5, 7, 4, 9}, least, []byte{5, 2, 253, 5}},
		{[]byte{1, 2, 3, 4, 5, 6}, 1, []byte{1, 1, 1, 1, 1, 1}},
		{[]byte{1, 2, 3, 4, 5, 6}, 2, []byte{1, 2, 2, 2, 2, 2}},
		{[]byte{0, 255, 0, 128, 0}, 1, []byte{0, 255, 1, 128, 128}},
		{[]byte{9}, 1, []byte{9}},
	} {
		if got := Delta(c.b, c.width); !bytes.Equal(got, c.want) {
			t.Errorf("Delta of %d, %d: %d; want %d", c.b, c.width, got, c.want)
		}
		if got := Undelta(c.want, c.width); !bytes.Equal(got, c.b) {
			t.Errorf("Undelta of %d, %d: %d; want %d", c.want, c.width, got, c.b)
		}
	}
}

func TestDeltaOfEachByte(t *testing.T) { // P20.2: going round at 256, whatever the byte and the one ahead
	for v := range 256 {
		for ahead := range 256 {
			lessened(t, []byte{byte(ahead), byte(v)}, 1)
			lessened(t, []byte{byte(ahead), 3, byte(v)}, 2)
		}
	}
}

func TestDeltaOfLengths(t *testing.T) { // P20.2: where records are cut off, too
	l := luck(1)
	b := l.bytes(70)
	for n := range len(b) + 1 {
		for width := range 75 {
			lessened(t, b[:n:n], width)
		}
	}
}

func TestDeltaOfAny(t *testing.T) { // P20.2
	for seed := range 5000 {
		l := luck(seed)
		lessened(t, l.bytes(l.below(100)), l.width())
	}
}

func TestDeltaBelowOne(t *testing.T) { // P20.2: a width below 1 counts as 1
	l := luck(2)
	b := l.bytes(50)
	for _, width := range strange() {
		if width < 1 && !bytes.Equal(Delta(b, width), Delta(b, 1)) {
			t.Errorf("Delta, %d: not as by 1", width)
		}
		if width < 1 && !bytes.Equal(Undelta(b, width), Undelta(b, 1)) {
			t.Errorf("Undelta, %d: not as by 1", width)
		}
	}
}

func TestDeltaOfOneByteTurned(t *testing.T) { // P20.2: Delta tells it at two places at most, Undelta in its column
	l := luck(3)
	b := l.bytes(60)
	for _, width := range []int{1, 2, 5, 16, 30, 59} {
		for place := range b {
			z := bytes.Clone(b)
			z[place]++
			x, y, there, back := Delta(b, width), Delta(z, width), Undelta(b, width), Undelta(z, width)
			for i := range b {
				if (x[i] != y[i]) != (i == place || i == place+width) {
					t.Fatalf("Delta, %d, place %d turned: at %d %d and %d", width, place, i, x[i], y[i])
				}
				if (there[i] != back[i]) != (i >= place && (i-place)%width == 0) {
					t.Fatalf("Undelta, %d, place %d turned: at %d %d and %d", width, place, i, there[i], back[i])
				}
			}
		}
	}
}

func TestDeltaOfNothing(t *testing.T) { // P20.2, R3: no bytes are none
	for _, b := range [][]byte{nil, {}, make([]byte, 0, 40)} {
		for _, width := range append(strange(), 1, 2, 16) {
			if x, y := Delta(b, width), Undelta(b, width); len(x) != 0 || len(y) != 0 {
				t.Errorf("of nothing, %d: %x, %x", width, x, y)
			}
		}
	}
}

func TestDeltaOfMany(t *testing.T) { // P20.2: no length is too great
	l := luck(4)
	for _, size := range []int{api.MaxData - 1, api.MaxData, api.MaxData + 1, 2*api.MaxData + 7} {
		b := l.bytes(size)
		for _, width := range []int{-1, 1, 2, 5, 16, 1000, size - 1, size, size + 1} {
			if got := Delta(b, width); !bytes.Equal(got, deltaByWords(b, width)) {
				t.Errorf("Delta of %d bytes, %d: not as by the chapter's words", size, width)
			}
			thereAndBack(t, b, width)
		}
	}
}
