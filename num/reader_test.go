package num

import (
	"math"
	"strings"
	"testing"

	"valise/api"
)

// state fails unless r has so many bytes left, and these answers of Err and End.
func state(t *testing.T, what string, r *Reader, left int, err, end api.Errno) {
	t.Helper()
	if r.Left() != left || r.Err() != err || r.End() != end {
		t.Errorf("%s: %d left, Err %d, End %d; want %d, %d, %d", what, r.Left(), r.Err(), r.End(), left, err, end)
	}
}

// behind is a reader of "\xee" and s that stands at s.
func behind(s string) *Reader {
	r := New([]byte("\xee" + s))
	r.Raw(1)
	return r
}

// silent fails unless every call of r answers a zero value.
func silent(t *testing.T, what string, r *Reader) {
	t.Helper()
	if r.Num() != 0 || r.Zig() != 0 || r.Little(1) != 0 || r.Big(1) != 0 || r.Little(0) != 0 || r.Big(0) != 0 {
		t.Errorf("%s: it tells a number", what)
	}
	if len(r.Text(9)) != 0 || len(r.Text(0)) != 0 || len(r.Raw(1)) != 0 || len(r.Raw(0)) != 0 || len(r.Raw(99)) != 0 {
		t.Errorf("%s: it tells bytes", what)
	}
}

func TestReaderExample(t *testing.T) { // P2.2, example 1
	r := New([]byte("\xac\x02\x01\x02\x01\x00\x00\x01\x02"))
	if a, b, c, d := r.Num(), r.Zig(), r.Little(4), r.Big(2); a != 300 || b != -1 || c != 258 || d != 258 {
		t.Errorf("%d %d %d %d", a, b, c, d)
	}
	state(t, "behind all", r, 0, api.OK, api.OK)
}

func TestReaderNum(t *testing.T) { // P2.2
	for _, c := range numbers() {
		for _, rest := range []string{"", "\x00", "\xff\xff"} {
			r := behind(c.s + rest)
			if got := r.Num(); got != c.v || r.Left() != len(rest) || r.Err() != api.OK {
				t.Errorf("Num of %x: %d, %d left, Err %d; want %d", c.s+rest, got, r.Left(), r.Err(), c.v)
			}
			r = behind(c.s + rest)
			if got := r.Zig(); got != Unfold(c.v) || r.Left() != len(rest) || r.Err() != api.OK {
				t.Errorf("Zig of %x: %d, %d left, Err %d; want %d", c.s+rest, got, r.Left(), r.Err(), Unfold(c.v))
			}
		}
	}
}

func TestReaderNumFaults(t *testing.T) { // P2.2, P2.3
	long := func(n int) string { return strings.Repeat("\xff", n) }
	low := func(n int) string { return strings.Repeat("\x80", n) }
	for _, c := range []struct {
		s    string
		want api.Errno
	}{
		{"", api.ErrShort}, {"\x80", api.ErrShort}, {"\xff", api.ErrShort}, {low(8), api.ErrShort}, {low(9), api.ErrShort}, {long(9), api.ErrShort},
		{low(1) + "\x00", api.ErrForm}, {"\xac\x00", api.ErrForm}, {low(1) + "\x00\x01", api.ErrForm}, {long(2) + "\x00", api.ErrForm},
		{long(8) + "\x00", api.ErrForm}, {low(9) + "\x00", api.ErrForm}, {long(9) + "\x00", api.ErrForm}, {long(9) + "\x00\x01", api.ErrForm},
		{low(9) + "\x02", api.ErrForm}, {long(9) + "\x02", api.ErrForm}, {long(9) + "\x7f", api.ErrForm},
		{low(10), api.ErrForm}, {low(9) + "\x81", api.ErrForm}, {long(10), api.ErrForm}, // without an end, but ten are there
		{low(9) + "\x81\x01", api.ErrForm}, {low(10) + "\x01", api.ErrForm}, {low(11), api.ErrForm}, {long(30), api.ErrForm}, // whatever is behind it
		{low(10) + "\x00", api.ErrForm}, {long(9) + "\x02\x01\x01", api.ErrForm},
	} {
		for what, read := range map[string]func(*Reader) bool{
			"Num":  func(r *Reader) bool { return r.Num() == 0 },
			"Zig":  func(r *Reader) bool { return r.Zig() == 0 },
			"Text": func(r *Reader) bool { return len(r.Text(math.MaxInt)) == 0 },
		} {
			r := behind(c.s)
			if !read(r) {
				t.Errorf("%s of %x: it tells something", what, c.s)
			}
			state(t, what, r, len(c.s), c.want, c.want)
		}
	}
}

func TestReaderText(t *testing.T) { // P2.2
	x := strings.Repeat("x", 200)
	for _, c := range []struct {
		s    string
		most int
		want string
		left int
	}{
		{"\x00", 0, "", 0}, {"\x00", -1, "", 0}, {"\x00", math.MinInt, "", 0}, {"\x00abc", 9, "", 3},
		{"\x01a", 1, "a", 0}, {"\x03abcd", 3, "abc", 1}, {"\x03abcd", 4, "abc", 1}, {"\x03abc", math.MaxInt, "abc", 0},
		{"\x02\x80\x00\x00", 2, "\x80\x00", 1}, {"\xc8\x01" + x, 200, x, 0}, {"\xc8\x01" + x + "yy", 1000, x, 2},
	} {
		r := behind(c.s)
		if got := string(r.Text(c.most)); got != c.want || r.Left() != c.left || r.Err() != api.OK {
			t.Errorf("Text(%d) of %q: %q, %d left, Err %d; want %q, %d", c.most, c.s, got, r.Left(), r.Err(), c.want, c.left)
		}
	}
}

func TestReaderTextFaults(t *testing.T) { // P2.2, P2.3, R5
	whole := strings.Repeat("\xff", 9) + "\x01"
	for _, c := range []struct {
		s    string
		most int
		want api.Errno
	}{
		{"\x01", 1, api.ErrShort}, {"\x03ab", 3, api.ErrShort}, {"\x03ab", math.MaxInt, api.ErrShort}, {"\x80\x01" + strings.Repeat("x", 127), 128, api.ErrShort},
		{"\x03abc", 2, api.ErrForm}, {"\x01a", 0, api.ErrForm}, {"\x01a", -1, api.ErrForm}, {"\x01a", math.MinInt, api.ErrForm},
		{"\x03ab", 2, api.ErrForm}, {"\x01", 0, api.ErrForm}, {"\x01", -7, api.ErrForm}, // too short, too
		{whole, math.MaxInt, api.ErrForm}, {whole, 0, api.ErrForm}, {whole + "abc", -1, api.ErrForm}, // past an int
		{strings.Repeat("\x80", 9) + "\x01", math.MaxInt, api.ErrForm}, {strings.Repeat("\xff", 8) + "\x7f", math.MaxInt, api.ErrShort},
		{"\x80", -1, api.ErrShort}, {"\x80\x00", 9, api.ErrForm}, // the Num itself
	} {
		r := behind(c.s)
		if got := r.Text(c.most); len(got) != 0 {
			t.Errorf("Text(%d) of %q: %q", c.most, c.s, got)
		}
		state(t, "Text of "+c.s, r, len(c.s), c.want, c.want)
		silent(t, "Text of "+c.s, r)
		state(t, "Text of "+c.s+", and others", r, len(c.s), c.want, c.want)
	}
}

func TestReaderWhole(t *testing.T) { // P2.2: Little, Big
	all := "\x01\x23\x45\x67\x89\xab\xcd\xef\x55"
	for _, c := range []struct {
		n, size     int
		little, big uint64
	}{
		{math.MinInt, 0, 0, 0}, {-1, 0, 0, 0}, {0, 0, 0, 0}, {1, 1, 0x01, 0x01}, {2, 2, 0x2301, 0x0123}, {3, 3, 0x452301, 0x012345},
		{4, 4, 0x67452301, 0x01234567}, {7, 7, 0xcdab8967452301, 0x0123456789abcd}, {8, 8, 0xefcdab8967452301, 0x0123456789abcdef},
		{9, 8, 0xefcdab8967452301, 0x0123456789abcdef}, {math.MaxInt, 8, 0xefcdab8967452301, 0x0123456789abcdef},
	} {
		r := behind(all)
		if got := r.Little(c.n); got != c.little || r.Left() != 9-c.size || r.Err() != api.OK {
			t.Errorf("Little(%d): %x, %d left, Err %d; want %x", c.n, got, r.Left(), r.Err(), c.little)
		}
		r = behind(all)
		if got := r.Big(c.n); got != c.big || r.Left() != 9-c.size || r.Err() != api.OK {
			t.Errorf("Big(%d): %x, %d left, Err %d; want %x", c.n, got, r.Left(), r.Err(), c.big)
		}
	}
	r := New([]byte(strings.Repeat("\xff", 16)))
	if a, b := r.Little(9), r.Big(9); a != math.MaxUint64 || b != math.MaxUint64 { // eight bytes are enough for nine
		t.Errorf("%x, %x", a, b)
	}
	state(t, "behind both", r, 0, api.OK, api.OK)
}

func TestReaderRaw(t *testing.T) { // P2.2
	for _, c := range []struct {
		n    int
		want string
	}{{math.MinInt, ""}, {-1, ""}, {0, ""}, {1, "a"}, {9, "abcdefghi"}, {12, "abcdefghijkl"}} {
		r := behind("abcdefghijkl")
		if got := string(r.Raw(c.n)); got != c.want || r.Left() != 12-len(c.want) || r.Err() != api.OK {
			t.Errorf("Raw(%d): %q, %d left, Err %d; want %q", c.n, got, r.Left(), r.Err(), c.want)
		}
	}
}

func TestReaderShort(t *testing.T) { // P2.2, P2.3
	for _, c := range []struct {
		s    string
		n    int
		what string
	}{
		{"", 1, "Little"}, {"", 1, "Big"}, {"", 1, "Raw"}, {"abc", 4, "Little"}, {"abc", 4, "Big"}, {"abc", 4, "Raw"},
		{"abcdefg", 8, "Little"}, {"abcdefg", 8, "Big"}, {"abcdefg", 9, "Little"}, {"abcdefg", math.MaxInt, "Big"},
		{"abcdefghi", 10, "Raw"}, {"abcdefghi", math.MaxInt, "Raw"},
	} {
		r := behind(c.s)
		got := false
		switch c.what {
		case "Little":
			got = r.Little(c.n) != 0
		case "Big":
			got = r.Big(c.n) != 0
		case "Raw":
			got = len(r.Raw(c.n)) != 0
		}
		if got {
			t.Errorf("%s(%d) of %q: it tells something", c.what, c.n, c.s)
		}
		state(t, c.what, r, len(c.s), api.ErrShort, api.ErrShort)
		silent(t, c.what, r)
		state(t, c.what+", and others", r, len(c.s), api.ErrShort, api.ErrShort)
	}
}

func TestReaderAtEnd(t *testing.T) { // P2.2: nothing is asked for, nothing is short
	r := New([]byte("a"))
	r.Raw(1)
	if len(r.Raw(0)) != 0 || len(r.Raw(-3)) != 0 || r.Little(0) != 0 || r.Big(-1) != 0 {
		t.Error("something behind the end")
	}
	state(t, "at the end", r, 0, api.OK, api.OK)
}

func TestReaderFirstFault(t *testing.T) { // P2.3
	for what, c := range map[string]struct {
		fail func(*Reader)
		want api.Errno
	}{
		"a number too short": {func(r *Reader) { r.Raw(99) }, api.ErrShort},
		"a text too long":    {func(r *Reader) { r.Text(1) }, api.ErrForm},
	} {
		r := behind("\x02\x80\x00")
		c.fail(r)
		state(t, what, r, 3, c.want, c.want)
		r.Raw(99)
		r.Text(1)
		r.Little(8)
		silent(t, what, r)
		state(t, what+", and another one", r, 3, c.want, c.want)
	}
}

func TestReaderEnd(t *testing.T) { // P2.3
	for _, c := range []struct {
		s    string
		skip int
		want api.Errno
	}{{"", 0, api.OK}, {"a", 1, api.OK}, {"a", 0, api.ErrForm}, {"\x00", 0, api.ErrForm}, {"\x01\x00", 1, api.ErrForm}, {"abc", 3, api.OK}} {
		r := New([]byte(c.s))
		r.Raw(c.skip)
		state(t, "End of "+c.s, r, len(c.s)-c.skip, api.OK, c.want)
		state(t, "End once more of "+c.s, r, len(c.s)-c.skip, api.OK, c.want)
	}
}

func TestReaderAfterForm(t *testing.T) { // P2.3: what End tells is no fault of the reader
	r := New([]byte("\x05"))
	if r.End() != api.ErrForm || r.Err() != api.OK || r.Num() != 5 {
		t.Error("it does not go on")
	}
	state(t, "at last", r, 0, api.OK, api.OK)
}

func TestReaderTakesACopy(t *testing.T) { // P2.2, R3
	room := []byte("\x02abXY")
	r := New(room[:3])
	state(t, "at first", r, 3, api.OK, api.ErrForm)
	copy(room, "zzzz")
	if got := string(r.Text(9)); got != "ab" {
		t.Errorf("it reads %q, what was written in later", got)
	}
	r.Raw(1)
	if string(room) != "zzzzY" || r.Err() != api.ErrShort {
		t.Errorf("what was handed in is %q, Err %d", room, r.Err())
	}
}

func TestReaderGivesOutCopies(t *testing.T) { // P2.2, R3
	r := New([]byte("\x02abcdefgh"))
	one := r.Text(2)
	_ = append(one, "zzz"...)
	one[0] = 'z'
	two := r.Raw(2)
	_ = append(two, "zzz"...)
	if string(one) != "zb" || string(two) != "cd" || string(r.Raw(4)) != "efgh" {
		t.Errorf("what was handed out is the reader's own: %q, %q", one, two)
	}
}

func TestReadersApart(t *testing.T) { // R2
	b := []byte("\x07\x02ab")
	one, other := New(b), New(b)
	one.Raw(2)
	one.Text(0)
	if one.Err() == api.OK || other.Err() != api.OK || other.Num() != 7 || string(other.Text(2)) != "ab" {
		t.Error("a reader hangs on another one")
	}
}

func TestReaderZero(t *testing.T) { // R1
	var r Reader
	state(t, "zero", &r, 0, api.OK, api.OK)
	silent(t, "zero", &r)
	state(t, "zero, read", &r, 0, api.ErrShort, api.ErrShort)
}

func TestReaderNone(t *testing.T) { // R3: nil is no bytes
	for _, b := range [][]byte{nil, {}} {
		r := New(b)
		state(t, "none", r, 0, api.OK, api.OK)
		if len(r.Text(3)) != 0 {
			t.Error("a text of nothing")
		}
		state(t, "none, read", r, 0, api.ErrShort, api.ErrShort)
	}
}

func TestReaderNil(t *testing.T) { // P2.3
	var r *Reader
	silent(t, "nil", r)
	if len(r.Text(-1)) != 0 || len(r.Raw(-1)) != 0 || r.Little(math.MaxInt) != 0 || r.Big(math.MinInt) != 0 {
		t.Error("a nil reader tells something")
	}
	state(t, "nil", r, 0, api.ErrNil, api.ErrNil)
}
