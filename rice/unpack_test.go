package rice

import (
	"bytes"
	"math"
	"slices"
	"strings"
	"testing"

	"valise/api"
)

// hold tells of an answer of Unpack that is not what the chapter says.
func hold(t *testing.T, x []byte, n int) (taken bool) {
	t.Helper()
	want, right := unpackByWords(x, n)
	expect(t, x, n, want, right)
	return right
}

// expect tells of an answer of Unpack that is neither these numbers nor, if there are none such, their lack.
func expect(t *testing.T, x []byte, n int, want []int32, right bool) {
	t.Helper()
	got, e := Unpack(x, n)
	if right && (e != api.OK || !slices.Equal(got, want)) {
		t.Fatalf("%x, %d numbers: %v, error %d; want %v", x, n, got, e, want)
	}
	if !right && (e != api.ErrForm || got != nil) {
		t.Fatalf("%x, %d numbers: %v, error %d; want 4", x, n, got, e)
	}
}

func TestUnpackOfNothing(t *testing.T) { // P10.2: no bytes are no numbers, and nothing else is
	for _, none := range [][]byte{nil, {}, make([]byte, 0, 9)} {
		if l, e := Unpack(none, 0); e != api.OK || len(l) != 0 {
			t.Errorf("%v, error %d", l, e)
		}
		for _, n := range []int{1, 2, 64, 65, api.MaxData} {
			expect(t, none, n, nil, false)
		}
	}
	for _, x := range [][]byte{{0}, {1}, {128}, {255}, {0, 0}, make([]byte, 1000)} {
		expect(t, x, 0, nil, false)
	}
}

func TestUnpackOfKnown(t *testing.T) { // P10.2
	for _, c := range known {
		if got, e := Unpack(unhex(t, c.want), len(c.l)); e != api.OK || !slices.Equal(got, c.l) {
			t.Errorf("%s: %v, error %d; want %v", c.want, got, e, c.l)
		}
	}
}

func TestWhatIsPackedIsUnpacked(t *testing.T) { // P10.2, what follows
	for seed := range 1000 {
		l := luck(seed)
		row := l.numbers(l.below(300), seed%kinds)
		expect(t, packed(t, row), len(row), row, true)
	}
	for _, v := range edges() {
		for _, row := range [][]int32{{v}, {v, v, v}, {0, v, 1 << 20}} {
			expect(t, packed(t, row), len(row), row, true)
		}
	}
}

func TestAllShortOnes(t *testing.T) { // P10.2: of all rows of at most two bytes, those are taken to which numbers are packed, and no others
	of := [4]map[string][]int32{{"": nil}, {}, {}, {}}
	for v := range int32(1400) { // more than can have 11 bits, and so for all below
		of[1][string(packByWords([]int32{v - 700}))] = []int32{v - 700}
	}
	for i := range int32(80 * 80) {
		row := []int32{i/80 - 40, i%80 - 40}
		of[2][string(packByWords(row))] = row
	}
	for i := range int32(20 * 20 * 20) {
		row := []int32{i/400 - 10, i/20%20 - 10, i%20 - 10}
		of[3][string(packByWords(row))] = row
	}
	for n, known := range of {
		for size := range 3 {
			for i := range 1 << (8 * size) {
				x := []byte{byte(i >> 8), byte(i)}[2-size:]
				want, right := known[string(x)]
				expect(t, x, n, want, right)
			}
		}
	}
}

func TestAlikeOfUnlikeLengths(t *testing.T) { // P10.2: numbers of two lengths may be packed alike; n tells which are meant
	for n := range 12 {
		expect(t, []byte{0}, n, make([]int32, n), n >= 1 && n <= 3)
		expect(t, []byte{0, 0}, n, make([]int32, n), n >= 4 && n <= 11)
	}
}

func TestOtherWritings(t *testing.T) { // P10.2: the right numbers, but not as Pack writes them
	ones, zeros := strings.Repeat("1", 24), strings.Repeat("0", 32)
	for _, c := range []struct {
		name, bits string
		n          int
	}{
		{"0, written whole", "00000" + ones + zeros, 1},
		{"11, written whole, with 3", "00011" + ones + "00000000000000000000000000010110", 1},
		{"0 with 1", "00001" + "00", 1},
		{"0 with 24", "11000" + strings.Repeat("0", 25), 1},
		{"0 with 25", "11001" + strings.Repeat("0", 26), 1},
		{"0 with 31", "11111" + strings.Repeat("0", 32), 1},
		{"12 with 3, not its best", "00011" + "1110000", 1},
		{"1 with 1, as short as with 0", "00001" + "100", 1},
		{"the greatest with 1, as short as with 0", "00001" + ones + strings.Repeat("1", 31) + "0", 1},
		{"24 ones with a 0 behind them", "00000" + ones + "0", 1},
		{"25 ones and a 0", "00000" + ones + "10", 1},
		{"a fill with a one", "00000" + "011", 1},
		{"a fill with a one at its end", "00000" + "001", 1},
		{"the second block's parameter above 24", "00000" + strings.Repeat("0", 64) + "11001" + strings.Repeat("0", 26), 65},
		{"the second block's parameter not its best", "00000" + strings.Repeat("0", 64) + "00001" + "00", 65},
		{"no second parameter", "00000" + strings.Repeat("0", 65), 65},
		{"a second parameter too soon", "00000" + strings.Repeat("0", 63) + "00100" + "11111", 65},
	} {
		if l, e := Unpack(filled(c.bits), c.n); e != api.ErrForm || l != nil {
			t.Errorf("%s: %v, error %d; want 4", c.name, l, e)
		}
	}
}

func TestTooShortOrTooLong(t *testing.T) { // P10.2: each beginning, a byte more, a number more
	for seed := range 60 {
		l := luck(seed)
		row := l.numbers(1+l.below(100), seed%kinds)
		x := packed(t, row)
		for size := range x {
			hold(t, x[:size], len(row))
		}
		for _, more := range [][]byte{{0}, {1}, {128}, {255}, {0, 0}} {
			hold(t, append(bytes.Clone(x), more...), len(row))
		}
		for n := range 3 {
			hold(t, x, max(len(row)-n, 0))
			hold(t, x, len(row)+n)
		}
	}
}

func TestNothingElseIsUnpacked(t *testing.T) { // P10.2, what follows: what is spoilt is refused, or is what other numbers are
	refused := 0
	for seed := range 1000 {
		l := luck(seed)
		row := l.numbers(l.below(100), seed%kinds)
		x := packed(t, row)
		if !hold(t, x, len(row)) {
			t.Fatalf("seed %d: what is packed is not taken", seed)
		}
		if !hold(t, l.spoilt(x), len(row)) {
			refused++
		}
		hold(t, l.spoilt(l.spoilt(x)), l.below(110))
	}
	if refused < 300 {
		t.Errorf("of 1000 that are spoilt %d are refused", refused)
	}
}

func TestUnpackOfAny(t *testing.T) { // P10.2, R1: any bytes, any length
	for seed := range 5000 {
		l := luck(seed)
		x := make([]byte, l.below(40))
		for i := range x {
			x[i] = []byte{0, 255, byte(l.below(256))}[l.below(3)]
		}
		hold(t, x, l.below(90))
	}
	for _, v := range []byte{0, 1, 127, 128, 254, 255} {
		for size := range 12 {
			for n := range 70 {
				hold(t, bytes.Repeat([]byte{v}, size), n)
			}
		}
	}
}

func TestUnpackRefuses(t *testing.T) { // P10.2, R5: n below 0 counts ahead of the limit, and that ahead of the form; R4
	for _, x := range [][]byte{nil, {0}, {255, 255}, packed(t, []int32{1, 2, 3})} {
		for _, n := range []int{-1, -2, -64, -api.MaxData - 1, math.MinInt32, math.MinInt} {
			if l, e := Unpack(x, n); e != api.ErrArg || l != nil {
				t.Errorf("%x, %d numbers: %v, error %d; want 1", x, n, l, e)
			}
		}
		for _, n := range []int{api.MaxData + 1, 2 * api.MaxData, math.MaxInt32, math.MaxInt} {
			if l, e := Unpack(x, n); e != api.ErrLimit || l != nil {
				t.Errorf("%x, %d numbers: %v, error %d; want 5", x, n, l, e)
			}
		}
		for _, n := range []int{api.MaxData, api.MaxData - 1} {
			expect(t, x, n, nil, false)
		}
	}
	over := packed(t, make([]int32, api.MaxData))
	if l, e := Unpack(append(over, 0), api.MaxData+1); e != api.ErrLimit || l != nil {
		t.Errorf("one above MaxData: %d numbers, error %d; want 5", len(l), e)
	}
}
