package image

import (
	"bytes"
	"math"
	"slices"
	"testing"

	"valise/api"
	"valise/num"
)

// hold fails unless Unpack tells what it may of any bytes: a file that is packed to them, at most so long, or an error and nothing beside it.
func hold(t *testing.T, x []byte, most int) (taken bool) {
	t.Helper()
	y, err := Unpack(x, most)
	if err == api.OK {
		if again, is := Pack(y); !is || !bytes.Equal(again, x) || len(y) > most {
			t.Fatalf("%.200x, at most %d: %.100x, which is packed to %.200x", x, most, y, again)
		}
		return true
	}
	if y != nil || !slices.Contains([]api.Errno{api.ErrLimit, api.ErrForm, api.ErrShort}, err) {
		t.Fatalf("%.200x, at most %d: %.100x, error %d", x, most, y, err)
	}
	return false
}

// wrong fails unless x is told to be nothing that Pack makes.
func wrong(t *testing.T, name string, x []byte) {
	t.Helper()
	if y, err := Unpack(x, api.MaxData); y != nil || err != api.ErrForm && err != api.ErrShort {
		t.Errorf("%s: %.100x, error %d; want 3 or 4", name, y, err)
	}
}

// few are files of some kinds, packed.
func few(t *testing.T) map[string][]byte {
	t.Helper()
	all := map[string][]byte{}
	for _, s := range []shape{{1, 1, 1}, {7, 5, 1}, {5, 4, 3}, {2, 9, 3}} {
		for _, name := range []string{"the same", "soft", "noise"} {
			l := luck(2)
			for oddness, b := range odd(s, l.pixels(s, shades()[name])) {
				if oddness == "a BMP file" || oddness == "other fill" || oddness == "a PNM file" || oddness == "a remark in pixels" {
					key := name + ", " + oddness + ", " + s.String()
					all[key] = whole(t, key, b)
				}
			}
		}
	}
	return all
}

func TestTooShortOrTooLong(t *testing.T) { // P19.1: each beginning, and bytes more
	for name, x := range few(t) {
		for n := range x {
			wrong(t, name+", cut off", x[:n])
			hold(t, x[n:], api.MaxData)
		}
		for _, more := range [][]byte{{0}, {1}, {128}, {255}, {0, 0}, x} {
			wrong(t, name+", and more", slices.Concat(x, more))
		}
	}
}

func TestSpoiltOnes(t *testing.T) { // P19.1: each bit turned is refused, or what another file is packed to
	for name, x := range few(t) {
		refused := 0
		for i := range 8 * len(x) {
			z := bytes.Clone(x)
			z[i/8] ^= 1 << (i % 8)
			if !hold(t, z, api.MaxData) {
				refused++
			}
			hold(t, z, 60)
		}
		if refused < 20 {
			t.Errorf("%s: of %d bits %d count", name, 8*len(x), refused)
		}
	}
}

func TestSpoiltTwice(t *testing.T) { // P19.1
	l := luck(4)
	for range 3 {
		for _, x := range few(t) {
			for range 100 {
				z := bytes.Clone(x)
				for range 2 + l.below(4) {
					z[l.below(len(z))] = one(&l, 0, 1, 127, 128, 255, byte(l.below(256)))
				}
				i, j := l.below(len(z)), l.below(len(z))
				hold(t, z, l.below(1000))
				hold(t, slices.Concat(z[:i], z[j:]), l.below(1000))
			}
		}
	}
}

func TestUnpackOfAny(t *testing.T) { // P19.1, R1: any bytes, any most
	mosts := []int{math.MinInt, -1, 0, 1, 12, 55, 1000, api.MaxData, api.MaxData + 1, math.MaxInt}
	for seed := range 5000 {
		l := luck(seed)
		hold(t, l.bytes(l.below(90)), one(&l, mosts...))
	}
	for _, v := range []byte{0, 1, 127, 128, 254, 255} {
		for size := range 40 {
			for _, most := range mosts {
				hold(t, bytes.Repeat([]byte{v}, size), most)
			}
		}
	}
	for i := range 1 << 16 {
		wrong(t, "two bytes", []byte{byte(i) & 0x7f, byte(i >> 8)})
	}
}

func TestUnpackOfNothing(t *testing.T) { // P19.1: nothing is packed to no bytes, nor is the file of none
	for _, x := range [][]byte{nil, {}, make([]byte, 0, 9), {0}, {0, 0, 0}, make([]byte, 1000)} {
		wrong(t, "nothing", x)
		if y, err := Unpack(x, 0); y != nil || err != api.ErrForm && err != api.ErrShort {
			t.Errorf("%x, at most 0: %x, error %d", x, y, err)
		}
	}
}

func TestOtherWritings(t *testing.T) { // P19.1: the right file, but not as Pack writes it; just one way of all is the right one
	for name, shade := range shades() {
		for _, s := range []shape{{6, 3, 1}, {3, 3, 3}, {1, 3, 3}} {
			l := luck(5)
			pixels := l.pixels(s, shade)
			fill := "123"[:s.fill()]
			b := bmp(s, 54, fill, pixels)
			right := 0
			for i := range 6 * 6 * 6 {
				kinds := []byte{byte(i / 36), byte(i / 6 % 6), byte(i % 6)}
				x := laid(uint64(len(b)), b[:54], nil, bytes.Repeat([]byte(fill), 3), kinds, filtered(s, pixels, kinds...))
				if hold(t, x, len(b)) {
					right++
				}
			}
			if right != 1 {
				t.Errorf("%s, %s: %d writings are taken", name, s, right)
			}
		}
	}
}

func TestKindsThatAreNone(t *testing.T) { // P19.1: in each row, of each number
	s := shape{4, 3, 1}
	b := pnm(s, make([]byte, 12))
	for row := range 3 {
		for kind := range 256 {
			kinds := make([]byte, 3)
			kinds[row] = byte(kind)
			x := laid(uint64(len(b)), b[:len(b)-12], nil, kinds, make([]byte, 12))
			if kind == 0 {
				if !bytes.Equal(x, whole(t, "as it is", b)) {
					t.Fatalf("laid as %x", x)
				}
				continue
			}
			wrong(t, "another kind", x)
		}
	}
}

func TestOtherPlaces(t *testing.T) { // P19.1: rows elsewhere than the file has them, or more or fewer
	s := shape{4, 3, 1}
	b := pnm(s, make([]byte, 12)) // of a head of 11 bytes
	rows := make([]byte, 3+12)
	if x := laid(23, b[:11], nil, rows); !bytes.Equal(x, whole(t, "as it is", b)) {
		t.Fatalf("laid as %x", x)
	}
	for name, x := range map[string][]byte{
		"a pixel ahead":              laid(23, b[:12], nil, rows[1:]),
		"a pixel ahead, and there":   laid(23, b[:12], nil, rows),
		"a pixel behind":             laid(23, b[:11], b[22:], rows[1:]),
		"a pixel behind, and there":  laid(23, b[:11], b[22:], rows),
		"all ahead":                  laid(23, b, nil, rows),
		"all behind":                 laid(23, nil, b, rows),
		"a pixel less":               laid(23, b[:11], nil, rows[1:]),
		"a pixel more":               laid(23, b[:11], nil, rows, rows[:1]),
		"a row more":                 laid(23, b[:11], nil, rows, rows[:5]),
		"no rows":                    laid(23, b[:11], nil, nil),
		"no head":                    laid(23, nil, nil, rows),
		"half a head":                laid(23, b[:5], nil, rows),
		"a head that ends too early": laid(23, b[:10], nil, rows),
		"a size of a head":           laid(11, b[:11], nil, rows),
		"a lesser size than a head":  laid(10, b[:11], nil, rows),
		"a lesser size than both":    laid(21, b[:11], b[:11], rows),
		"a lesser size":              laid(22, b[:11], nil, rows),
		"a greater size":             laid(24, b[:11], nil, rows),
		"a size of 1":                laid(1, b[:11], nil, rows),
		"a longer head than a most":  laid(23, make([]byte, api.MaxData+1), nil, rows),
	} {
		wrong(t, name, x)
	}
	for _, size := range []uint64{api.MaxData + 1, 1 << 32, 1<<32 + 23, 1 << 63, 1<<64 - 1} { // ahead of what else is wrong
		for _, all := range [][]byte{rows, nil} {
			if y, err := Unpack(laid(size, b[:11], nil, all), math.MaxInt); err != api.ErrLimit || y != nil {
				t.Errorf("a size of %d: %x, error %d; want 5", size, y, err)
			}
		}
	}
}

func TestOtherFill(t *testing.T) { // P19.1: what stands behind a row's pixels is told, all of it, and no more
	s := shape{1, 3, 3}
	b := bmp(s, 54, "f", make([]byte, 9))
	rows := make([]byte, 3+9)
	if x := laid(66, b[:54], nil, []byte("fff"), rows); !bytes.Equal(x, whole(t, "as it is", b)) {
		t.Fatalf("laid as %x", x)
	}
	for name, fill := range map[string]string{"none": "", "one less": "ff", "one more": "ffff", "a row's": "fffff"} {
		wrong(t, name, laid(66, b[:54], nil, []byte(fill), rows))
	}
	if !hold(t, laid(66, b[:54], nil, []byte("f\x00\xff"), rows), 66) {
		t.Error("another fill is refused")
	}
	wrong(t, "a head without its last bytes, which are 0", laid(66, with(b, 50, 0)[:50], nil, []byte("fff"), rows))
	wrong(t, "a head up to its pixels' place", laid(66, with(b, 10, 50)[:50], nil, []byte("fff"), rows))
}

func TestNumbersAtFault(t *testing.T) { // P19.1: a number ahead that has no right form
	var w num.Writer
	w.Raw([]byte{0x97, 0x00}) // 23, but longer than it need be
	b := pnm(shape{4, 3, 1}, make([]byte, 12))
	x := whole(t, "as it is", b)
	w.Raw(x[1:])
	wrong(t, "a longer number", w.Bytes())
	wrong(t, "a number without an end", bytes.Repeat([]byte{0x80}, 9))
	wrong(t, "a number that is too great", bytes.Repeat([]byte{0xff}, 11))
}
