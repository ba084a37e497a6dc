package coder

import (
	"bytes"
	"math"
	"testing"
)

// encoded is what a new encoder makes of the steps.
func encoded(all ...step) []byte {
	e := NewEncoder()
	for _, s := range all {
		e.Encode(s.bit, s.chance)
	}
	return e.Flush()
}

func TestEncode(t *testing.T) { // P4.1, example 1; the others by hand
	for _, c := range []struct {
		steps []step
		want  []byte
	}{
		{nil, []byte{0, 0, 0, 0}},
		{[]step{{1, 2048}}, []byte{0, 0, 0, 0}},
		{[]step{{0, 2048}}, []byte{0x80, 0, 0, 0}},
		{[]step{{1, 1}}, []byte{0, 0, 0, 0, 0}},
		{[]step{{0, 1}}, []byte{0, 0x10, 0, 0}},
		{[]step{{1, 4095}}, []byte{0, 0, 0, 0}},
		{[]step{{0, 4095}}, []byte{0xff, 0xf0, 0, 0, 0}},
		{[]step{{1, 15}}, []byte{0, 0, 0, 0, 0}},
		{[]step{{1, 16}}, []byte{0, 0, 0, 0, 0}},
		{[]step{{1, 17}}, []byte{0, 0, 0, 0}},
		{[]step{{0, 2048}, {0, 2048}}, []byte{0xc0, 0, 0, 0}},
		{[]step{{0, 2048}, {1, 2048}, {0, 2048}}, []byte{0xa0, 0, 0, 0}},
		{[]step{{0, 3000}}, []byte{0xbb, 0x80, 0, 0}},
		{[]step{{1, 1}, {1, 1}, {0, 4095}}, []byte{0, 0, 0, 0xff, 0xf0, 0, 0, 0}},
	} {
		if got := encoded(c.steps...); !bytes.Equal(got, c.want) {
			t.Errorf("Flush of %v: % x; want % x", c.steps, got, c.want)
		}
	}
}

func TestEncodeOfBytes(t *testing.T) { // P4.1: with even chances the bits are put out as they are, but turned: a one is the lower half
	var e Encoder
	for _, v := range []byte("valise") {
		for k := range 8 {
			e.Encode(int(^v>>(7-k)&1), 2048)
		}
	}
	if got := e.Flush(); string(got) != "valise\x00\x00\x00\x00" {
		t.Errorf("Flush: %q", got)
	}
}

func TestEncodeOfEachChance(t *testing.T) { // P4.1
	for chance := 1; chance <= 4095; chance++ {
		for bits := range 16 {
			w, e := newByWords(), NewEncoder()
			for k := range 4 {
				s := step{bits >> k & 1, chance}
				w.encode(s)
				e.Encode(s.bit, s.chance)
			}
			if got, want := e.Flush(), w.flushed(); !bytes.Equal(got, want) {
				t.Fatalf("the bits %04b with the chance %d: % x; want % x", bits, chance, got, want)
			}
		}
	}
}

func TestEncodeOfAny(t *testing.T) { // P4.1: against the chapter's words
	for seed := range 400 {
		l := luck(seed)
		w, e := newByWords(), NewEncoder()
		for _, s := range l.steps(l.below(700), seed%4) {
			w.encode(s)
			e.Encode(s.bit, s.chance)
		}
		if got, want := e.Flush(), w.flushed(); !bytes.Equal(got, want) {
			t.Fatalf("seed %d: % x; want % x", seed, got, want)
		}
	}
}

func TestEncodeByTheNearerChance(t *testing.T) { // P4.1: a chance that may not be
	for _, c := range []struct{ odd, near int }{
		{0, 1}, {-1, 1}, {-5, 1}, {-2048, 1}, {-4096, 1}, {math.MinInt, 1}, {math.MinInt32, 1}, {-1<<32 + 2048, 1},
		{4096, 4095}, {4097, 4095}, {9000, 4095}, {4096 + 2048, 4095}, {1 << 32, 4095}, {1<<32 + 2048, 4095}, {math.MaxInt32, 4095}, {math.MaxInt, 4095},
	} {
		for bits := range 64 {
			var odd, near []step
			for k := range 6 {
				odd = append(odd, step{bits >> k & 1, c.odd}, step{k % 2, 1000})
				near = append(near, step{bits >> k & 1, c.near}, step{k % 2, 1000})
			}
			if got, want := encoded(odd...), encoded(near...); !bytes.Equal(got, want) {
				t.Fatalf("%v: % x; want % x", odd, got, want)
			}
		}
	}
	if bytes.Equal(encoded(step{0, 1}), encoded(step{0, 2})) || bytes.Equal(encoded(step{0, 4095}), encoded(step{0, 4094})) {
		t.Error("a chance at the edge counts as the one beside it")
	}
}

func TestEncodeOfAnyBit(t *testing.T) { // P4.1: not 0 is a one
	for _, bit := range []int{1, 2, 5, -1, 256, 1 << 32, math.MinInt, math.MaxInt} {
		for _, chance := range []int{1, 700, 2048, 4095} {
			got := encoded(step{0, 2000}, step{bit, chance}, step{0, 2000})
			if want := encoded(step{0, 2000}, step{1, chance}, step{0, 2000}); !bytes.Equal(got, want) {
				t.Errorf("the bit %d: % x; want % x", bit, got, want)
			}
		}
	}
}

func TestFlushBeginsAnew(t *testing.T) { // P4.1
	e := NewEncoder()
	for seed := range 60 {
		l := luck(seed)
		all := l.steps(l.below(90), seed%4)
		for _, s := range all {
			e.Encode(s.bit, s.chance)
		}
		if got, want := e.Flush(), encoded(all...); !bytes.Equal(got, want) {
			t.Fatalf("behind %d others: % x; want % x", seed, got, want)
		}
		if got := e.Flush(); seed%3 == 0 && !bytes.Equal(got, make([]byte, 4)) {
			t.Fatalf("flushed once more: % x", got)
		}
	}
}

func TestFlushIsNewMemory(t *testing.T) { // R3
	e := NewEncoder()
	l := luck(1)
	all := l.steps(500, 1)
	for _, s := range all {
		e.Encode(s.bit, s.chance)
	}
	first := e.Flush()
	want := bytes.Clone(first)
	for _, s := range all {
		e.Encode(1-s.bit, s.chance)
	}
	_ = append(first, 7, 7, 7) // into the room behind the end
	second := e.Flush()
	if !bytes.Equal(first, want) {
		t.Error("what was flushed is changed by what comes behind it")
	}
	again := bytes.Clone(second)
	for i := range first {
		first[i] = 0xaa
	}
	if !bytes.Equal(second, again) {
		t.Error("two answers share memory")
	}
	for _, s := range all {
		e.Encode(s.bit, s.chance)
	}
	for i := range second[:cap(second)] {
		second[:cap(second)][i] = 0x55
	}
	if got := e.Flush(); !bytes.Equal(got, want) {
		t.Error("who writes into an answer changes the encoder")
	}
}

func TestZeroEncoder(t *testing.T) { // an encoder has a range, at first the whole
	var e Encoder
	l := luck(2)
	all := l.steps(200, 1)
	for _, s := range all {
		e.Encode(s.bit, s.chance)
	}
	if got, want := e.Flush(), encoded(all...); !bytes.Equal(got, want) {
		t.Errorf("% x; want % x", got, want)
	}
	var bare Encoder
	if got := bare.Flush(); !bytes.Equal(got, make([]byte, 4)) {
		t.Errorf("Flush of nothing: % x", got)
	}
}

func TestNilEncoder(t *testing.T) { // R1
	var e *Encoder
	for _, chance := range []int{math.MinInt, 0, 1, 2048, 4095, math.MaxInt} {
		e.Encode(0, chance)
		e.Encode(1, chance)
		if got := e.Flush(); len(got) != 0 {
			t.Errorf("Flush of nil: % x", got)
		}
	}
}

func TestLikelyTakesLittle(t *testing.T) { // P4.1: a bit takes what its chance says
	for _, c := range []struct{ bit, chance, n, most int }{
		{1, 4095, 4000, 6}, {0, 1, 4000, 6}, {1, 2048, 800, 104}, {0, 2048, 800, 104}, {1, 1, 80, 125}, {0, 4095, 80, 125}, {1, 3072, 800, 48},
	} {
		var all []step
		for range c.n {
			all = append(all, step{c.bit, c.chance})
		}
		if got := len(encoded(all...)); got > c.most {
			t.Errorf("%d times %d with the chance %d: %d bytes; at most %d", c.n, c.bit, c.chance, got, c.most)
		}
	}
}
