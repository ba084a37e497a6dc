package coder

import (
	"slices"
	"sync"
	"testing"
)

// apart is the steps' bits and chances.
func apart(all []step) (bits, chances []int) {
	for _, s := range all {
		bits = append(bits, s.bit)
		chances = append(chances, s.chance)
	}
	return bits, chances
}

// back tells of steps that do not come out again, or take more bytes, or fewer, than there are.
func back(t *testing.T, what string, all []step) {
	t.Helper()
	b := encoded(all...)
	bits, chances := apart(all)
	if got, past := read(b, chances); !slices.Equal(got, bits) || past != 0 {
		t.Fatalf("%s: %v of % x, Past %d; want %v", what, got, b, past, bits)
	}
	if _, past := read(b[:len(b)-1], chances); b[len(b)-1] == 0 && past != 1 { // only a zero stays the same where it is not there
		t.Fatalf("%s: without the last byte: Past %d", what, past)
	}
	if _, past := read(append(b, 1, 2, 3), chances); past != 0 {
		t.Fatalf("%s: with more behind: Past %d", what, past)
	}
}

func TestEncodedIsDecoded(t *testing.T) { // what follows
	for seed := range 800 {
		l := luck(seed)
		back(t, "any", l.steps(l.below(600), seed%4))
	}
	for chance := 1; chance <= 4095; chance += 7 {
		for bit := range 2 {
			back(t, "the same", slices.Repeat([]step{{bit, chance}}, 90))
			back(t, "to and fro", slices.Repeat([]step{{bit, chance}, {1 - bit, chance}}, 45))
		}
	}
}

func TestEncodedAmongOthersIsDecoded(t *testing.T) { // what follows: more bytes may stand behind
	l := luck(5)
	all := l.steps(300, 1)
	bits, chances := apart(all)
	for n := range 20 {
		if got, past := read(append(encoded(all...), l.text(n)...), chances); !slices.Equal(got, bits) || past != 0 {
			t.Fatalf("with %d bytes behind: %v, Past %d", n, got, past)
		}
	}
}

func TestLongIsDecoded(t *testing.T) { // what follows
	l := luck(6)
	for kind := range 4 {
		back(t, "long", l.steps(1<<17, kind))
	}
}

// tightest is the step that leaves the least of the range, of those that leave its middle, 2^31 - 1 and 2^31, within; false, if it is no wider.
func tightest(w *byWords) (step, bool) {
	best, least := step{}, w.high-w.low
	for chance := 1; chance <= 4095; chance++ {
		mid := w.mid(chance)
		if mid >= 1<<31 && mid-w.low < least {
			best, least = step{1, chance}, mid-w.low
		}
		if mid+1 < 1<<31 && w.high-mid-1 < least {
			best, least = step{0, chance}, w.high-mid-1
		}
	}
	return best, least < w.high-w.low
}

func TestNarrowestRange(t *testing.T) { // two numbers are left, whose highest bytes differ: one for each bit
	w := newByWords()
	var all []step
	for {
		s, ok := tightest(w)
		if !ok {
			break
		}
		w.encode(s)
		all = append(all, s)
	}
	if w.low != 1<<31-1 || w.high != 1<<31 || len(w.out) != 0 {
		t.Fatalf("the range is %x to %x", w.low, w.high)
	}
	l := luck(7)
	for _, chance := range []int{1, 2, 2048, 4094, 4095} {
		for bit := range 2 {
			one := append(slices.Clone(all), step{bit, chance})
			back(t, "narrowest", one)
			want := []byte{0x80, 0, 0, 0, 0, 0, 0, 0}
			if bit == 1 {
				want = []byte{0x7f, 0xff, 0xff, 0xff, 0, 0, 0, 0}
			}
			if got := encoded(one...); !slices.Equal(got, want) {
				t.Errorf("a %d in the narrowest range: % x; want % x", bit, got, want)
			}
			back(t, "behind the narrowest", append(one, l.steps(50, 1)...))
		}
	}
}

func TestCodersSideBySide(t *testing.T) { // R2: one hangs on no other
	l := luck(8)
	all, other := l.steps(400, 1), l.steps(400, 2)
	a, b := NewEncoder(), NewEncoder()
	for i := range all {
		a.Encode(all[i].bit, all[i].chance)
		b.Encode(other[i].bit, other[i].chance)
	}
	x, y := a.Flush(), b.Flush()
	if !slices.Equal(x, encoded(all...)) || !slices.Equal(y, encoded(other...)) {
		t.Error("an encoder hangs on another")
	}
	c, d := NewDecoder(x), NewDecoder(y)
	for i := range all {
		if c.Decode(all[i].chance) != all[i].bit || d.Decode(other[i].chance) != other[i].bit {
			t.Fatal("a decoder hangs on another")
		}
	}
	var join sync.WaitGroup
	for seed := range 8 {
		join.Go(func() {
			l := luck(seed)
			all := l.steps(2000, seed%4)
			bits, chances := apart(all)
			if got, past := read(encoded(all...), chances); !slices.Equal(got, bits) || past != 0 {
				t.Errorf("seed %d: it hangs on what goes on beside it", seed)
			}
		})
	}
	join.Wait()
}
