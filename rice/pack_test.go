package rice

import (
	"bytes"
	"encoding/hex"
	"math"
	"slices"
	"testing"

	"valise/api"
)

// packed is what Pack tells of these numbers, which may be.
func packed(t *testing.T, l []int32) []byte {
	t.Helper()
	b, e := Pack(l)
	if e != api.OK {
		t.Fatalf("Pack of %d numbers: error %d", len(l), e)
	}
	return b
}

// unhex is the bytes of which that is the writing.
func unhex(t *testing.T, s string) []byte {
	t.Helper()
	b, err := hex.DecodeString(s)
	if err != nil {
		t.Fatal(err)
	}
	return b
}

// known tells numbers, and what they are when they are packed, worked out by the chapter's words outside the program.
var known = []struct {
	l    []int32
	want string
}{
	{nil, ""},
	{[]int32{0}, "00"}, // example 1
	{[]int32{-1}, "04"},
	{[]int32{1}, "06"},
	{[]int32{12}, "2500"},
	{[]int32{-12}, "1ee0"},
	{[]int32{11}, "1ec0"},
	{[]int32{12, 0}, "1f00"},
	{[]int32{math.MaxInt32}, "07fffffffffffff0"},
	{[]int32{math.MinInt32}, "07fffffffffffff8"},
	{[]int32{math.MinInt32, math.MaxInt32}, "07fffffffffffffffffffffffffff0"},
	{[]int32{math.MaxInt32, 0, 0, 0}, "07fffffffffffff0"},
	{[]int32{7, math.MaxInt32, -3, 2, math.MinInt32, 0}, "175fffffffffffffd31fffffffffffffe0"},
	{[]int32{1, -1, 1, -2, 2}, "0c65c0"},
	{[]int32{1000, -1000, 999}, "55e85e7de700"},
	{[]int32{-10, -9, -8, -7, -6, -5, -4, -3, -2, -1, 0, 1, 2, 3, 4, 5, 6, 7, 8, 9, 10}, "1e78deb38ba9881234254b619680"},
	{[]int32{12<<24 - 1}, "c7fffff7fffff0"},
	{[]int32{-12 << 24}, "c7fffff7fffff8"},
	{[]int32{12 << 24}, "07fffff8c0000000"},
	{[]int32{-12<<24 - 1}, "07fffff8c0000008"},
	{[]int32{12<<24 - 1, 12<<24 - 1, 12<<24 - 1, 12 << 24}, "c7fffff7fffff7fffff7fffff7fffff7fffff7fffff8c0000000"},
	{make([]int32, 64), "000000000000000000"},
	{make([]int32, 65), "00000000000000000000"}, // five bits more, and one
	{append(slices.Repeat([]int32{5}, 64), -300), "16b5ad6b5ad6b5ad6b5ad6b5ad6b5ad6b5ad6b5ad6b5ad6b5ad6b5ad6b5ad6b5ad6b5ad6b5ad6b5ad232b8"},
}

func TestPackOfKnown(t *testing.T) { // P10.2
	for _, c := range known {
		if got := packed(t, c.l); hex.EncodeToString(got) != c.want {
			t.Errorf("%v: %x; want %s", c.l, got, c.want)
		}
	}
}

func TestPackOfNothing(t *testing.T) { // P10.2, R3: nil and an empty list are the same
	for _, none := range [][]int32{nil, {}, make([]int32, 0, 9)} {
		if got := packed(t, none); len(got) != 0 {
			t.Errorf("%x; want nothing", got)
		}
	}
}

func TestPackOfEdges(t *testing.T) { // P10.2: each number alone, and with one that turns the parameter
	for _, v := range edges() {
		for _, row := range [][]int32{{v}, {0, v, 0}, {v, v, 5 << 12}, {-1 << 24, v, 1 << 24, v}} {
			if got, want := packed(t, row), packByWords(row); !bytes.Equal(got, want) {
				t.Errorf("%v: %x; want %x", row, got, want)
			}
		}
	}
}

func TestPackOfEachLength(t *testing.T) { // P10.2: blocks of 64, the last of which has fewer, each with its own parameter
	l := luck(1)
	var row []int32
	for i := range 200 {
		row = append(row, l.wide(3+5*(i/64)))
		if got, want := packed(t, row), packByWords(row); !bytes.Equal(got, want) {
			t.Fatalf("%d numbers: %x; want %x", len(row), got, want)
		}
	}
}

func TestPackOfAny(t *testing.T) { // P10.2
	for seed := range 300 {
		l := luck(seed)
		row := l.numbers(l.below(400), seed%kinds)
		if got, want := packed(t, row), packByWords(row); !bytes.Equal(got, want) {
			t.Fatalf("seed %d: %x; want %x", seed, got, want)
		}
	}
}

func TestPackRefuses(t *testing.T) { // P10.2; R4: nothing beside an error
	for _, n := range []int{api.MaxData + 1, api.MaxData + 64, 2 * api.MaxData} {
		if b, e := Pack(make([]int32, n)); e != api.ErrLimit || b != nil {
			t.Errorf("%d numbers: %d bytes, error %d; want 5", n, len(b), e)
		}
	}
}

func TestMostNumbers(t *testing.T) { // P10.2: MaxData numbers may be, of few bits and of many
	l := luck(2)
	for _, kind := range []int{0, 1, 5} {
		row := l.numbers(api.MaxData, kind)
		b := packed(t, row)
		if got, e := Unpack(b, len(row)); e != api.OK || !slices.Equal(got, row) {
			t.Errorf("kind %d: error %d, %d numbers", kind, e, len(got))
		}
	}
	row := slices.Repeat([]int32{math.MinInt32}, api.MaxData)
	if b, want := packed(t, row), (56*len(row)+5*len(row)/64)/8; len(b) != want {
		t.Errorf("%d bytes; want %d", len(b), want)
	}
}
