package stream

import (
	"bytes"
	"encoding/hex"
	"math"
	"testing"

	"valise/api"
)

// packed is what Pack tells of these bytes, which may be.
func packed(t *testing.T, b []byte, level int) []byte {
	t.Helper()
	x, e := Pack(b, level)
	if e != api.OK {
		t.Fatalf("Pack of %d bytes, level %d: error %d", len(b), level, e)
	}
	return x
}

// unhex is the bytes of which that is the writing.
func unhex(t *testing.T, s string) []byte {
	t.Helper()
	b, err := hex.DecodeString(s)
	if err != nil {
		t.Fatal(err)
	}
	return b
}

// known tells bytes, and what they are when they are packed, worked out by the words of chapters 4 to 8 outside the program.
var known = []struct {
	bytes string
	want  [api.Levels]string
}{
	{"", [3]string{"00000000", "00000000", "00000000"}},
	{"\x00", [3]string{"ff00000000", "ffaabf691d", "ffaabf691d"}},
	{"\xff", [3]string{"0000000000", "00000000", "00000000"}},
	{"a", [3]string{"9e00000000", "b2aba5eb", "b2aba5eb"}},
	{"abc", [3]string{"9e9abbac262e", "b32be7fd5d70", "b32be7fd5d70"}},
	{"abababababab", [3]string{
		"9e9ac2b421626ea5ea8953f5", "b32be99b5f2f85a07038d6648600", "b32be99b5eefe0db4ded0046ce00"}},
	{"the quick brown fox", [3]string{
		"8b94e49f9bc2fdb8ab6a6ba2ca020ac9ffbcf1",
		"a05cc5b27b654322635ae0ba262e90ddf8ed5ce897",
		"a05cc5b27b654322635ae0ba3990c54af7d5ea8b68"}},
	{"\x00\x11\x22\x33\x44\x55\x66\x77\x88\x99\xaa\xbb\xcc\xdd\xee\xff", [3]string{
		"ffea46864e5875d9743ff070e1eb05ddb4140000",
		"fffc3ec2f8b356a93e0a7392395ca4eb74dc0000",
		"fffbce9ba762a952d764486fe11d4188e9dd3f"}},
}

func TestPackOfNothing(t *testing.T) { // P9.1, example 1
	for level := range api.Levels {
		for _, none := range [][]byte{nil, {}, make([]byte, 0, 9)} {
			if got := packed(t, none, level); !bytes.Equal(got, []byte{0, 0, 0, 0}) {
				t.Errorf("level %d: %x; want 00000000", level, got)
			}
		}
	}
}

func TestPackOfKnown(t *testing.T) { // P9.1
	for _, c := range known {
		for level, want := range c.want {
			if got := packed(t, []byte(c.bytes), level); hex.EncodeToString(got) != want {
				t.Errorf("%q, level %d: %x; want %s", c.bytes, level, got, want)
			}
		}
	}
}

func TestPackOfAny(t *testing.T) { // P9.1: what an encoder tells behind all bits, each by the model's chance
	for seed := range 100 {
		l := luck(seed)
		b := l.bytes(l.below(700), seed%kinds)
		for level := range api.Levels {
			if got, want := packed(t, b, level), packByWords(b, level); !bytes.Equal(got, want) {
				t.Fatalf("seed %d, level %d: %x; want %x", seed, level, got, want)
			}
		}
	}
}

func TestPackOfEachByte(t *testing.T) { // P9.1: the highest bit first
	for level := range api.Levels {
		for v := range 256 {
			b := []byte{byte(v), byte(255 - v)}
			if got, want := packed(t, b, level), packByWords(b, level); !bytes.Equal(got, want) {
				t.Fatalf("%x, level %d: %x; want %x", b, level, got, want)
			}
		}
	}
}

// oddLevels are those that may not be.
func oddLevels() []int {
	return []int{math.MinInt, math.MinInt32, -256, -2, -1, 3, 4, 256, math.MaxInt32, math.MaxInt}
}

func TestPackRefuses(t *testing.T) { // P9.1, R5: the level counts first; R4: nothing beside an error
	over := make([]byte, api.MaxData+1)
	for _, level := range oddLevels() {
		for _, b := range [][]byte{nil, {1}, over} {
			if x, e := Pack(b, level); e != api.ErrArg || x != nil {
				t.Errorf("%d bytes, level %d: %d bytes, error %d; want 1", len(b), level, len(x), e)
			}
		}
	}
	for level := range api.Levels {
		for _, b := range [][]byte{over, make([]byte, 2*api.MaxData)} {
			if x, e := Pack(b, level); e != api.ErrLimit || x != nil {
				t.Errorf("%d bytes, level %d: %d bytes, error %d; want 5", len(b), level, len(x), e)
			}
		}
	}
}

func TestMostBytes(t *testing.T) { // P9.1, P9.2: MaxData bytes may be, at each level
	l := luck(1)
	for level := range api.Levels {
		b := l.bytes(api.MaxData, 2+level)
		x := packed(t, b, level)
		if got, e := Unpack(x, len(b), level); e != api.OK || !bytes.Equal(got, b) {
			t.Errorf("level %d: error %d, %d bytes", level, e, len(got))
		}
	}
}

func TestHigherLevelsPackShorter(t *testing.T) { // what the levels are for
	l := luck(2)
	b := l.bytes(20000, 3)
	low, middle, high := len(packed(t, b, 0)), len(packed(t, b, 1)), len(packed(t, b, 2))
	if high >= middle || middle >= low || low >= len(b) {
		t.Errorf("of %d bytes: %d at level 0, %d, and %d at level 2", len(b), low, middle, high)
	}
}
