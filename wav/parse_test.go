package wav

import (
	"bytes"
	"encoding/binary"
	"strconv"
	"testing"

	"valise/api"
)

// at is where samples are.
func at(channels, bits, from, to int) api.Wav {
	return api.Wav{Channels: channels, Bits: bits, From: from, To: to}
}

// found fails unless samples are there, and as wanted.
func found(t *testing.T, what string, b []byte, want api.Wav) {
	t.Helper()
	if got, ok := Parse(b); !ok || got != want {
		t.Errorf("%s: %+v, %v; want %+v", what, got, ok, want)
	}
	hold(t, b)
}

// lacking fails unless there are none, and nothing is told of them.
func lacking(t *testing.T, what string, b []byte) {
	t.Helper()
	if got, ok := Parse(b); ok || got != (api.Wav{}) {
		t.Errorf("%s: %+v, %v; want none", what, got, ok)
	}
	hold(t, b)
}

// hold fails unless b is parsed as the chapter's words say.
func hold(t *testing.T, b []byte) bool {
	t.Helper()
	got, ok := Parse(b)
	if want, is := parseByWords(b); got != want || ok != is {
		t.Errorf("%.200x: %+v, %v; by words %+v, %v", b, got, ok, want, is)
	}
	return ok
}

func TestExample(t *testing.T) { // example 1
	found(t, "what is made", Make(api.Wav{Channels: 1, Bits: 8}, []byte{1, 2}), at(1, 8, 44, 46))
}

func TestParseOfNothing(t *testing.T) { // P13.1, R3
	lacking(t, "nil", nil)
	lacking(t, "no bytes", []byte{})
	lacking(t, "no chunks", file())
}

func TestHead(t *testing.T) { // P13.1: RIFF, and WAVE at place 8; what is between counts for nothing
	b := file(plain(2, 16), filled("data", 1, 2, 3, 4))
	for i := range 12 {
		for v := range 256 {
			other := bytes.Clone(b)
			other[i] = byte(v)
			if i >= 4 && i < 8 || other[i] == b[i] {
				found(t, "another length", other, at(2, 16, 44, 48))
			} else {
				lacking(t, "another head", other)
			}
		}
	}
	lacking(t, "something ahead", append([]byte{0}, b...))
	lacking(t, "nothing between", append([]byte("RIFFWAVE"), b[12:]...))
}

func TestEachBeginning(t *testing.T) { // P13.1: content as far as b goes
	b := file(plain(2, 16), filled("LIST", 7), filled("data", make([]byte, 21)...), filled("data", make([]byte, 90)...))
	for n := range b {
		switch frames := (n - 54) / 4; {
		case n < 58:
			lacking(t, "a beginning", b[:n])
		default:
			found(t, "a beginning", b[:n], at(2, 16, 54, 54+4*min(frames, 5)))
		}
	}
}

func TestWholeFrames(t *testing.T) { // P13.1: so many bytes as are whole frames, one at least
	for channels := 1; channels <= 8; channels++ {
		for _, bits := range []int{8, 16} {
			size := channels * bits / 8
			for n := range 4*size + 1 {
				b := file(plain(channels, bits), filled("data", make([]byte, n)...))
				if n < size {
					lacking(t, "less than a frame", b)
				} else {
					found(t, "frames", b, at(channels, bits, 44, 44+n/size*size))
				}
			}
		}
	}
}

func TestSizeOfData(t *testing.T) { // P13.1: any size, as far as b goes
	for _, size := range []uint32{10, 11, 12, 100, 255, 256, 1 << 16, 1<<31 - 1, 1 << 31, 1<<31 + 1, 1<<32 - 2, 1<<32 - 1} {
		found(t, "a great size", file(plain(1, 16), chunk("data", size, make([]byte, 11)...)), at(1, 16, 44, 54))
		lacking(t, "a great size of less than a frame", file(plain(1, 16), chunk("data", size, 0)))
		lacking(t, "a great size of nothing", file(plain(1, 16), chunk("data", size)))
	}
	for size := range uint32(10) {
		b := file(plain(1, 16), chunk("data", size, make([]byte, 11)...))
		if size < 2 {
			lacking(t, "a small size", b)
		} else {
			found(t, "a small size", b, at(1, 16, 44, 44+int(size)/2*2))
		}
	}
}

func TestSizesOfOthers(t *testing.T) { // P13.1: a size that leads past the end ends the walk
	for _, size := range []uint32{50, 51, 1 << 16, 1<<31 - 1, 1 << 31, 1<<31 + 1, 1<<32 - 100, 1<<32 - 8, 1<<32 - 3, 1<<32 - 2, 1<<32 - 1} {
		rest := bytes.Join([][]byte{plain(1, 8), filled("data", 1, 2)}, nil) // 34 bytes
		lacking(t, "a great size ahead", file(chunk("LIST", size, rest...)))
		lacking(t, "a great format ahead", file(chunk("fmt ", size, rest...)))
		lacking(t, "great data ahead", file(chunk("data", size, rest...)))
		lacking(t, "a great size between", file(plain(1, 8), chunk("LIST", size, filled("data", 1, 2)...)))
		lacking(t, "a great format", file(chunk("fmt ", size, append(format(1, 1, 8), filled("data", 1, 2)...)...)))
		found(t, "a great size behind", file(plain(1, 8), filled("data", 1, 2), chunk("LIST", size, 3)), at(1, 8, 44, 46))
	}
}

func TestOddSizes(t *testing.T) { // P13.1: the next chunk is one byte further
	for n := range 40 {
		skip := filled("LIST", make([]byte, n)...)
		to := 46 + len(skip)
		found(t, "ahead", file(skip, plain(2, 8), filled("data", 1, 2)), at(2, 8, to-2, to))
		found(t, "between", file(plain(2, 8), skip, filled("data", 1, 2)), at(2, 8, to-2, to))
		found(t, "behind", file(plain(2, 8), filled("data", 1, 2), skip), at(2, 8, 44, 46))
		found(t, "data ahead", file(filled("data", make([]byte, n)...), plain(2, 8), filled("data", 1, 2)), at(2, 8, to-2, to))
		if n%2 == 1 {
			lacking(t, "ahead, nothing between", file(skip[:len(skip)-1], plain(2, 8), filled("data", 1, 2)))
			lacking(t, "nothing between", file(plain(2, 8), skip[:len(skip)-1], filled("data", 1, 2)))
		}
	}
	for _, fill := range []byte{0, 1, 'd', 255} { // whatever byte it is
		found(t, "a fill", file(plain(1, 8), chunk("LIST", 1, 7, fill), filled("data", 1)), at(1, 8, 54, 55))
	}
	found(t, "no fill at the end", file(plain(1, 8), chunk("data", 3, 1, 2, 3)), at(1, 8, 44, 47))
	lacking(t, "a fill past the end", file(plain(1, 8), chunk("LIST", 1, 7)))
	lacking(t, "a fill at the end", file(plain(1, 8), filled("LIST", 7)))
}

func TestNothingWithoutBoth(t *testing.T) { // P13.1
	f, d := plain(1, 8), filled("data", 1, 2)
	lacking(t, "a format alone", file(f))
	lacking(t, "formats alone", file(f, f))
	lacking(t, "data alone", file(d))
	lacking(t, "data ahead of it", file(d, f))
	lacking(t, "data ahead of it, more than once", file(d, d, f, filled("LIST", 1)))
	for _, name := range []string{"FMT ", "fmt", "fmt\x00", " fmt", "fmt_", "fmT "} {
		lacking(t, strconv.Quote(name), file(filled(name, format(1, 1, 8)...), d))
		found(t, strconv.Quote(name)+" ahead", file(filled((name + " ")[:4], 9, 9), f, d), at(1, 8, 54, 56))
	}
	for _, name := range []string{"DATA", "dat", "dat\x00", "Data", "dat\xe1", "atad"} {
		lacking(t, strconv.Quote(name), file(f, filled(name, 1, 2)))
	}
	lacking(t, "both within another one", file(filled("LIST", append(f, d...)...)))
	lacking(t, "data within another one", file(f, filled("LIST", d...)))
}

func TestFirstFormat(t *testing.T) { // P13.1: the first of 16 bytes or more counts, whatever it tells
	d := filled("data", 1, 2, 3, 4)
	good := plain(2, 16)
	found(t, "two of them", file(good, plain(1, 8), d), at(2, 16, 68, 72))
	found(t, "the other way round", file(plain(1, 8), good, d), at(1, 8, 68, 72))
	for _, bad := range [][]byte{format(0, 2, 16), format(2, 2, 16), format(1, 0, 16), format(1, 9, 16), format(1, 2, 0), format(1, 2, 24), make([]byte, 16)} {
		lacking(t, "a bad one ahead", file(filled("fmt ", bad...), good, d))
		found(t, "a bad one behind", file(good, filled("fmt ", bad...), d), at(2, 16, 68, 72))
		found(t, "a bad one behind data", file(good, d, filled("fmt ", bad...)), at(2, 16, 44, 48))
	}
	for n := range 16 { // too short ones are passed over
		short := filled("fmt ", format(1, 2, 16)[:n]...)
		lacking(t, "a short one", file(short, d))
		lacking(t, "a short one that has more behind it", file(chunk("fmt ", uint32(n), format(1, 2, 16)...), d))
		found(t, "a short one ahead", file(short, plain(1, 8), d), at(1, 8, 44+len(short), 48+len(short)))
		found(t, "data and a short one ahead", file(d, short, d, plain(1, 8), d), at(1, 8, 68+len(short), 72+len(short)))
	}
}

func TestLongFormats(t *testing.T) { // P13.1: what is behind the first 16 bytes counts for nothing
	for n := range 40 {
		long := filled("fmt ", append(format(1, 2, 16), make([]byte, n)...)...)
		found(t, "a long one", file(long, filled("data", 1, 2, 3, 4)), at(2, 16, 20+len(long), 24+len(long)))
	}
	within := append(format(1, 1, 8), filled("data", 1, 2)...)
	found(t, "data in it", file(filled("fmt ", within...), filled("data", 3)), at(1, 8, 54, 55))
	lacking(t, "data in it alone", file(filled("fmt ", within...)))
	for n := range 16 { // cut off
		lacking(t, "half of one", file(chunk("fmt ", 16, format(1, 2, 16)[:n]...)))
		lacking(t, "half of a long one", file(chunk("fmt ", 400, format(1, 2, 16)[:n]...)))
	}
}

func TestFirstData(t *testing.T) { // P13.1: of that behind the format the first counts, whatever it has
	f, d := plain(2, 16), filled("data", 1, 2, 3, 4)
	found(t, "two of them", file(f, d, filled("data", make([]byte, 40)...)), at(2, 16, 44, 48))
	for n := range 4 {
		lacking(t, "one that is too short ahead", file(f, filled("data", make([]byte, n)...), d))
		found(t, "one that is too short behind", file(f, d, filled("data", make([]byte, n)...)), at(2, 16, 44, 48))
	}
	found(t, "one ahead of the format", file(filled("data", make([]byte, 40)...), f, d), at(2, 16, 92, 96))
}

func TestAllFormats(t *testing.T) { // P13.1: every number of two bytes
	for v := range 1 << 16 {
		b := file(filled("fmt ", format(1, 2, 16)...), filled("data", make([]byte, 16)...))
		binary.LittleEndian.PutUint16(b[20:], uint16(v))
		expect(t, b, v == 1, at(2, 16, 44, 60))
		b = file(filled("fmt ", format(1, v, 8)...), filled("data", make([]byte, 16)...))
		expect(t, b, v >= 1 && v <= 8, at(v, 8, 44, 44+16/max(v, 1)*v))
		b = file(filled("fmt ", format(1, 2, v)...), filled("data", make([]byte, 16)...))
		expect(t, b, v == 8 || v == 16, at(2, v, 44, 60))
	}
}

// expect fails unless samples are found, if they are there, and else none.
func expect(t *testing.T, b []byte, there bool, want api.Wav) {
	t.Helper()
	if !there {
		want = api.Wav{}
	}
	if got, ok := Parse(b); ok != there || got != want {
		t.Errorf("%x: %+v, %v; want %+v", b, got, ok, want)
	}
}

func TestOtherNumbersOfAFormat(t *testing.T) { // P13.1: from place 4 to 14 of its content they count for nothing
	for i := range 10 {
		for v := range 256 {
			b := file(plain(2, 16), filled("data", 1, 2, 3, 4))
			b[24+i] = byte(v)
			expect(t, b, true, at(2, 16, 44, 48))
		}
	}
}

func TestParseOfAny(t *testing.T) { // P13.1: against the words of the promise
	taken := 0
	for seed := range 200000 {
		l := luck(seed)
		if hold(t, l.any()) {
			taken++
		}
	}
	if taken < 20000 {
		t.Errorf("samples are found in %d of 200000", taken)
	}
}

func TestManyChunks(t *testing.T) { // P13.1: however many there are
	many := bytes.Repeat(chunk("LIST", 0), 1<<16)
	found(t, "many", file(many, plain(1, 8), many, filled("data", 1), many), at(1, 8, 44+2*len(many), 45+2*len(many)))
	lacking(t, "many and no more", file(many))
}
