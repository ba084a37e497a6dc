package coder

import (
	"bytes"
	"math"
	"slices"
	"testing"
)

// read is what a new decoder of b answers, and its Past behind that.
func read(b []byte, chances []int) (bits []int, past int) {
	d := NewDecoder(b)
	for _, chance := range chances {
		bits = append(bits, d.Decode(chance))
	}
	return bits, d.Past()
}

// number is a code as four bytes.
func number(v uint64) []byte {
	return []byte{byte(v >> 24), byte(v >> 16), byte(v >> 8), byte(v)}
}

func TestDecode(t *testing.T) { // P4.2; by hand
	for _, c := range []struct {
		b       []byte
		chances []int
		want    []int
		past    int
	}{
		{nil, nil, nil, 4},
		{nil, []int{2048, 1, 4095}, []int{1, 1, 1}, 5},
		{[]byte{0x80, 0, 0, 0}, []int{2048}, []int{0}, 0},
		{[]byte{0x80}, []int{2048, 2048, 2048}, []int{0, 1, 1}, 3},
		{[]byte{0x7f, 0xff, 0xff, 0xff}, []int{2048}, []int{1}, 0},
		{[]byte{0x7f, 0xff, 0xff, 0xfe, 0xff}, []int{2048}, []int{1}, 0},
		{[]byte{0, 0x0f, 0xff, 0xff}, []int{1}, []int{1}, 1},
		{[]byte{0, 0x10, 0, 0}, []int{1}, []int{0}, 0},
		{[]byte{0xff, 0xff, 0xff, 0xff}, []int{4095, 4095}, []int{0, 0}, 3},
		{[]byte{0xff, 0xf0, 0, 0, 0}, []int{4095, 4095}, []int{0, 1}, 0},
		{[]byte{0xff, 0xf0, 0, 0}, []int{4095, 4095}, []int{0, 1}, 1},
	} {
		if got, past := read(c.b, c.chances); !slices.Equal(got, c.want) || past != c.past {
			t.Errorf("Decode of % x with %v: %v, Past %d; want %v, %d", c.b, c.chances, got, past, c.want, c.past)
		}
	}
}

func TestDecodeAtTheMid(t *testing.T) { // P4.2: at most the mid is a one
	for chance := 1; chance <= 4095; chance++ {
		mid := newByWords().mid(chance)
		for _, c := range []struct {
			code uint64
			want int
		}{{0, 1}, {mid - 1, 1}, {mid, 1}, {mid + 1, 0}, {1<<32 - 1, 0}} {
			if got := NewDecoder(number(c.code)).Decode(chance); got != c.want {
				t.Fatalf("the code %x with the chance %d, mid %x: %d", c.code, chance, mid, got)
			}
		}
	}
}

func TestDecodeOfAny(t *testing.T) { // P4.2: any bytes, any chances, against the chapter's words
	for seed := range 800 {
		l := luck(seed)
		b := l.text(l.below(40))
		chances := make([]int, l.below(400))
		for i := range chances {
			chances[i] = l.chance()
			if l.below(9) == 0 {
				chances[i] = []int{0, -1, math.MinInt, 4096, 1<<32 + 5, math.MaxInt}[l.below(6)]
			}
		}
		got, past := read(b, chances)
		want, wantPast := decoded(b, chances)
		if !slices.Equal(got, want) || past != wantPast {
			t.Fatalf("seed %d: %v, Past %d; want %v, %d", seed, got, past, want, wantPast)
		}
	}
}

func TestDecodeByTheNearerChance(t *testing.T) { // P4.2: a chance that may not be
	l := luck(3)
	for _, c := range []struct{ odd, near int }{
		{0, 1}, {-1, 1}, {math.MinInt, 1}, {-1<<32 + 2048, 1}, {4096, 4095}, {4096 + 2048, 4095}, {1 << 32, 4095}, {math.MaxInt, 4095},
	} {
		for range 50 {
			b := l.text(8)
			b[0], b[1] = []byte{0, 0xff}[l.below(2)], byte(l.below(256))
			got, past := read(b, []int{c.odd, 900, c.odd, 2100, c.odd})
			want, wantPast := read(b, []int{c.near, 900, c.near, 2100, c.near})
			if !slices.Equal(got, want) || past != wantPast {
				t.Fatalf("% x with the chance %d: %v; want %v", b, c.odd, got, want)
			}
		}
	}
}

func TestPastAtFirst(t *testing.T) { // P4.2: the first four bytes are taken from the start
	for n, want := range []int{4, 3, 2, 1, 0, 0, 0} {
		if got := NewDecoder(make([]byte, n)).Past(); got != want {
			t.Errorf("Past of %d bytes: %d; want %d", n, got, want)
		}
	}
}

func TestPastCountsOn(t *testing.T) { // P4.2: with even chances each eight bits take a byte
	for n := range 9 {
		d := NewDecoder(bytes.Repeat([]byte{0x5a}, n))
		for k := range 200 {
			if want := max(k/8+4-n, 0); d.Past() != want || d.Past() != want {
				t.Fatalf("%d bytes, Past behind %d bits: %d; want %d", n, k, d.Past(), want)
			}
			d.Decode(2048)
		}
	}
}

func TestWhatIsNotThereIsZero(t *testing.T) { // P4.2
	for seed := range 200 {
		l := luck(seed)
		b := l.text(l.below(7))
		chances := make([]int, 150)
		for i := range chances {
			chances[i] = l.chance()
		}
		long := append(bytes.Clone(b), make([]byte, 300)...)
		got, past := read(b, chances)
		want, none := read(long, chances)
		if !slices.Equal(got, want) || none != 0 || past < 4-len(b) {
			t.Fatalf("seed %d: %v, Past %d; with zeros behind %v, Past %d", seed, got, past, want, none)
		}
	}
}

func TestDecoderKeepsItsOwn(t *testing.T) { // R3
	room := []byte("ahead, the bytes, behind")
	b := room[7:16]
	chances := make([]int, 100)
	for i := range chances {
		chances[i] = 1500 + 9*i
	}
	want, wantPast := read(bytes.Clone(b), chances)
	d := NewDecoder(b)
	var got []int
	for i, chance := range chances {
		if i == 3 {
			copy(room, bytes.Repeat([]byte{0xee}, len(room)))
		}
		got = append(got, d.Decode(chance))
	}
	if !slices.Equal(got, want) || d.Past() != wantPast {
		t.Error("bytes that are changed behind NewDecoder are told")
	}
	room = []byte("ahead, the bytes, behind")
	read(room[7:16], chances)
	if string(room) != "ahead, the bytes, behind" {
		t.Errorf("what was handed in is %q", room)
	}
}

func TestZeroDecoder(t *testing.T) { // no bytes, nil and empty, are the same
	var d Decoder
	for _, x := range []*Decoder{&d, NewDecoder(nil), NewDecoder([]byte{})} {
		if x.Past() != 4 {
			t.Errorf("Past of no bytes: %d", x.Past())
		}
		for range 16 {
			if x.Decode(2048) != 1 {
				t.Error("Decode of no bytes: 0")
			}
		}
		if x.Past() != 6 {
			t.Errorf("Past of no bytes behind 16 bits: %d", x.Past())
		}
	}
}

func TestNilDecoder(t *testing.T) { // P4.2, R1
	var d *Decoder
	for _, chance := range []int{math.MinInt, -1, 0, 1, 2048, 4095, 4096, math.MaxInt} {
		if d.Decode(chance) != 0 || d.Past() != 0 {
			t.Errorf("of nil: Decode(%d) %d, Past %d", chance, d.Decode(chance), d.Past())
		}
	}
}
