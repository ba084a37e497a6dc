package wav

import (
	"bytes"
	"encoding/hex"
	"math"
	"strconv"
	"testing"

	"valise/api"
)

// of is how samples are.
func of(channels, bits int) api.Wav {
	return api.Wav{Channels: channels, Bits: bits}
}

// made fails unless a file is made as the chapter's words say.
func made(t *testing.T, w api.Wav, samples []byte) {
	t.Helper()
	if got, want := Make(w, samples), makeByWords(w, samples); !bytes.Equal(got, want) {
		t.Errorf("%+v, %d bytes: %.100x; want %.100x", w, len(samples), got, want)
	}
}

func TestMakeOfKnown(t *testing.T) { // P13.2: files that another program made of the same
	for _, c := range []struct {
		w             api.Wav
		samples, want string
	}{
		{of(1, 8), "0102", "524946462600000057415645666d74201000000001000100401f0000401f00000100080064617461020000000102"},
		{of(2, 16), "0001020304050607", "524946462c00000057415645666d74201000000001000200401f0000007d00000400100064617461080000000001020304050607"},
		{of(8, 16), "000102030405060708090a0b0c0d0e0f101112131415161718191a1b1c1d1e1f", "524946464400000057415645666d74201000000001000800401f000000f40100100010006461746120000000000102030405060708090a0b0c0d0e0f101112131415161718191a1b1c1d1e1f"},
		{of(3, 8), "616263646566", "524946462a00000057415645666d74201000000001000300401f0000c05d0000030008006461746106000000616263646566"},
	} {
		samples, err := hex.DecodeString(c.samples)
		if got := hex.EncodeToString(Make(c.w, samples)); err != nil || got != c.want {
			t.Errorf("%+v: %s; want %s", c.w, got, c.want)
		}
	}
}

func TestMakeOfAll(t *testing.T) { // P13.2, and what follows
	l := luck(1)
	for channels := 1; channels <= 8; channels++ {
		for _, bits := range []int{8, 16} {
			size := channels * bits / 8
			for n := range 70 {
				samples := l.bytes(n)
				made(t, of(channels, bits), samples)
				b := Make(of(channels, bits), samples)
				if len(b) != 44+n {
					t.Fatalf("of %d bytes %d are made", n, len(b))
				}
				if n < size {
					lacking(t, "what is made of less than a frame", b)
				} else {
					found(t, "what is made", b, at(channels, bits, 44, 44+n/size*size))
				}
			}
		}
	}
}

func TestMakeOfLong(t *testing.T) { // P13.2: lengths of one byte to four
	for _, n := range []int{219, 220, 255, 256, 1<<16 - 37, 1<<16 - 36, 1<<16 - 1, 1 << 16, api.MaxData, 1<<24 - 37, 1<<24 - 36, 1<<24 + 1} {
		samples := make([]byte, n)
		samples[n-1] = 9
		made(t, of(3, 16), samples)
		found(t, "what is made", Make(of(1, 8), samples), at(1, 8, 44, 44+n))
	}
}

func TestMakeOfNothing(t *testing.T) { // P13.2, R3: a file without samples is one, too
	for _, none := range [][]byte{nil, {}} {
		made(t, of(2, 16), none)
		if b := Make(of(2, 16), none); len(b) != 44 {
			t.Errorf("%x", b)
		}
		lacking(t, "no samples", Make(of(1, 8), none))
	}
}

func TestMakeRefuses(t *testing.T) { // P13.2: no such channels, no such bits
	for _, channels := range []int{math.MinInt, math.MinInt32, -1 << 16, -8, -2, -1, 0, 9, 10, 255, 256, 257, 1<<16 + 1, 1<<32 + 1, math.MaxInt32, math.MaxInt} {
		for _, bits := range []int{8, 16} {
			refused(t, of(channels, bits))
		}
	}
	for channels := 1; channels <= 8; channels++ {
		for _, bits := range []int{math.MinInt, -1 << 32, -16, -8, -1, 0, 1, 2, 4, 7, 9, 10, 12, 15, 17, 20, 24, 32, 64, 8 + 1<<8, 8 + 1<<16, 16 + 1<<32, math.MaxInt32, math.MaxInt} {
			refused(t, of(channels, bits))
		}
	}
	refused(t, api.Wav{})
	refused(t, of(16, 2))
	refused(t, of(-8, -8))
	refused(t, at(0, 0, 44, 48))
}

// refused fails unless nothing is made.
func refused(t *testing.T, w api.Wav) {
	t.Helper()
	for _, samples := range [][]byte{nil, {1}, make([]byte, 16)} {
		if b := Make(w, samples); len(b) != 0 {
			t.Errorf("%+v: %x", w, b)
		}
	}
}

func TestMakeOfSmallNumbers(t *testing.T) { // P13.2: of all channels and bits near those that may be
	for channels := -3; channels <= 20; channels++ {
		for bits := -3; bits <= 40; bits++ {
			made(t, of(channels, bits), []byte("some samples, or so"))
		}
	}
}

func TestMakeHangsOnNoPlace(t *testing.T) { // P13.2: From and To count for nothing
	want := makeByWords(of(2, 8), []byte{1, 2, 3})
	for _, v := range []int{math.MinInt, -1, 0, 1, 44, 47, math.MaxInt} {
		for _, w := range []api.Wav{at(2, 8, v, 0), at(2, 8, 0, v), at(2, 8, v, v)} {
			if got := Make(w, []byte{1, 2, 3}); !bytes.Equal(got, want) {
				t.Errorf("%+v: %x; want %x", w, got, want)
			}
		}
	}
}

func TestMakeOfWhatLooksLikeChunks(t *testing.T) { // what follows: whatever the samples are
	inner := Make(of(2, 16), []byte("datafmt WAVERIFF"))
	found(t, "a file in a file", Make(of(1, 8), inner), at(1, 8, 44, 44+len(inner)))
	for _, samples := range []string{"data\x04\x00\x00\x00", "fmt \x10\x00\x00\x00", "RIFFRIFF", "\xff\xff\xff\xff\xff\xff\xff\xff"} {
		found(t, strconv.Quote(samples), Make(of(4, 16), []byte(samples)), at(4, 16, 44, 52))
	}
}
