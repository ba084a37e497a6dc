package stream

import (
	"bytes"
	"math"
	"testing"

	"valise/api"
)

// hold tells of an answer of Unpack that is not what the chapter says.
func hold(t *testing.T, x []byte, n, level int) (taken bool) {
	t.Helper()
	want, right := unpackByWords(x, n, level)
	got, e := Unpack(x, n, level)
	if right && (e != api.OK || !bytes.Equal(got, want)) {
		t.Fatalf("%x, %d bytes, level %d: %x, error %d; want %x", x, n, level, got, e, want)
	}
	if !right && (e != api.ErrForm || got != nil) {
		t.Fatalf("%x, %d bytes, level %d: %x, error %d; want 4", x, n, level, got, e)
	}
	return right
}

func TestUnpackOfNothing(t *testing.T) { // P9.2, example 1: four zeros are no bytes, and nothing else is
	for level := range api.Levels {
		if b, e := Unpack([]byte{0, 0, 0, 0}, 0, level); e != api.OK || len(b) != 0 {
			t.Errorf("level %d: %x, error %d", level, b, e)
		}
		for _, x := range [][]byte{
			nil, {}, {0}, {0, 0, 0}, {0, 0, 0, 0, 0}, {0, 0, 0, 1}, {1, 0, 0, 0}, {128, 0, 0, 0}, {255, 255, 255, 255}, make([]byte, 1000),
		} {
			if b, e := Unpack(x, 0, level); e != api.ErrForm || b != nil {
				t.Errorf("%x, level %d: %x, error %d; want 4", x, level, b, e)
			}
		}
	}
}

func TestUnpackOfKnown(t *testing.T) { // P9.2
	for _, c := range known {
		for level, x := range c.want {
			if got, e := Unpack(unhex(t, x), len(c.bytes), level); e != api.OK || string(got) != c.bytes {
				t.Errorf("%s, level %d: %q, error %d; want %q", x, level, got, e, c.bytes)
			}
		}
	}
}

func TestWhatIsPackedIsUnpacked(t *testing.T) { // P9.2, what follows
	for seed := range 200 {
		l := luck(seed)
		b := l.bytes(l.below(2000), seed%kinds)
		for level := range api.Levels {
			x := packed(t, b, level)
			if got, e := Unpack(x, len(b), level); e != api.OK || !bytes.Equal(got, b) {
				t.Fatalf("seed %d, level %d: error %d, %x; want %x", seed, level, e, got, b)
			}
		}
	}
}

func TestOneByteAlone(t *testing.T) { // P9.2, what follows: of all that lies near what one byte packs to, that alone is taken
	for level := range api.Levels {
		of := map[string]byte{}
		for v := range 256 {
			of[string(packed(t, []byte{byte(v)}, level))] = byte(v)
		}
		if len(of) != 256 {
			t.Fatalf("level %d: two bytes are packed alike", level)
		}
		for v := 0; v < 256; v += 5 { // 0 and 255 too
			for _, z := range near(packed(t, []byte{byte(v)}, level)) {
				want, right := of[string(z)]
				got, e := Unpack(z, 1, level)
				if right && (e != api.OK || !bytes.Equal(got, []byte{want})) || !right && (e != api.ErrForm || got != nil) {
					t.Fatalf("%x, level %d: %x, error %d; want %x, %v", z, level, got, e, want, right)
				}
			}
		}
	}
}

// near are x, and what differs little from it.
func near(x []byte) [][]byte {
	all := [][]byte{x, x[1:], x[:len(x)-1], x[:1], append(bytes.Clone(x), 0), append(bytes.Clone(x), 255), append([]byte{0}, x...)}
	for k := range 8 * len(x) {
		z := bytes.Clone(x)
		z[k/8] ^= 1 << (k % 8)
		all = append(all, z)
	}
	for i := range x {
		up, down := bytes.Clone(x), bytes.Clone(x)
		up[i]++
		down[i]--
		all = append(all, up, down)
	}
	return all
}

func TestNothingElseIsUnpacked(t *testing.T) { // P9.2, what follows: spoilt, of another length, of another level
	taken := 0
	for seed := range 600 {
		l := luck(seed)
		b := l.bytes(l.below(60), seed%kinds)
		level := l.below(api.Levels)
		x := packed(t, b, level)
		if !hold(t, x, len(b), level) {
			t.Fatalf("seed %d: what is packed is not taken", seed)
		}
		z := l.spoilt(x)
		if hold(t, z, len(b), level) && !bytes.Equal(z, x) {
			taken++
		}
		hold(t, x, max(len(b)+l.below(7)-3, 0), level)
		hold(t, x, len(b), l.below(api.Levels))
		hold(t, l.spoilt(l.spoilt(x)), l.below(70), level)
	}
	if taken > 6 { // a few may be what other bytes are, packed
		t.Errorf("of 600 that are spoilt %d are taken", taken)
	}
}

func TestUnpackOfAny(t *testing.T) { // P9.2, R1: any bytes, any length
	for seed := range 2000 {
		l := luck(seed)
		hold(t, l.bytes(l.below(40), seed%kinds), l.below(50), l.below(api.Levels))
	}
	for _, v := range []byte{0, 1, 127, 128, 254, 255} {
		for size := range 12 {
			for n := range 30 {
				hold(t, bytes.Repeat([]byte{v}, size), n, n%api.Levels)
			}
		}
	}
}

func TestAlikeOfUnlikeLengths(t *testing.T) { // P9.2: bytes of two lengths may be packed alike; n tells which are meant
	for level, x := range []string{"00000000000000000000000000000000", "00000000000000000000000000000000000000", "000000000000000000000000000000"} {
		for _, n := range []int{39, 40} {
			ones := bytes.Repeat([]byte{255}, n)
			if got := packed(t, ones, level); !bytes.Equal(got, unhex(t, x)) {
				t.Errorf("%d ones, level %d: %x; want %s", n, level, got, x)
			}
			if got, e := Unpack(unhex(t, x), n, level); e != api.OK || !bytes.Equal(got, ones) {
				t.Errorf("%d, level %d: error %d, %x", n, level, e, got)
			}
		}
		if got, e := Unpack(unhex(t, x), 4, level); e != api.ErrForm || got != nil {
			t.Errorf("4, level %d: error %d, %x; want 4", level, e, got)
		}
	}
}

func TestUnpackRefuses(t *testing.T) { // P9.2, R5: level and n count ahead of the limit, and that ahead of the form; R4
	x := packed(t, []byte("abc"), 1)
	for _, c := range []struct {
		n, level int
		want     api.Errno
	}{
		{-1, 0, api.ErrArg}, {-1, 2, api.ErrArg}, {-4096, 1, api.ErrArg}, {math.MinInt, 1, api.ErrArg}, {math.MinInt, -1, api.ErrArg},
		{api.MaxData + 1, 0, api.ErrLimit}, {api.MaxData + 1, 2, api.ErrLimit}, {2 * api.MaxData, 1, api.ErrLimit}, {math.MaxInt, 1, api.ErrLimit},
		{api.MaxData, 0, api.ErrForm}, {api.MaxData, 1, api.ErrForm}, {api.MaxData, 2, api.ErrForm},
	} {
		for _, x := range [][]byte{nil, x} {
			if b, e := Unpack(x, c.n, c.level); e != c.want || b != nil {
				t.Errorf("%x, %d bytes, level %d: %x, error %d; want %d", x, c.n, c.level, b, e, c.want)
			}
		}
	}
	for _, level := range oddLevels() {
		for _, n := range []int{0, 3, -1, api.MaxData, api.MaxData + 1, math.MaxInt, math.MinInt} {
			if b, e := Unpack(x, n, level); e != api.ErrArg || b != nil {
				t.Errorf("%d bytes, level %d: %x, error %d; want 1", n, level, b, e)
			}
		}
	}
}

func TestTooShortIsToldSoon(t *testing.T) { // it goes on no longer than there are bytes: else this would take many minutes
	for size := range 1000 {
		l := luck(size)
		if b, e := Unpack(l.bytes(size%9, 0), api.MaxData, size%api.Levels); e != api.ErrForm || b != nil {
			t.Fatalf("%d bytes: error %d", size%9, e)
		}
	}
}
