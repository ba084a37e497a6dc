package image

import (
	"bytes"
	"math"
	"slices"
	"testing"

	"valise/api"
	"valise/picture"
	"valise/stream"
)

// whole fails unless b is packed, to no more than it may be, and comes out again wherever it may be so long; it tells what it is, packed.
func whole(t *testing.T, name string, b []byte) []byte {
	t.Helper()
	x := back(t, name, b, len(b), len(b)+1, api.MaxData, api.MaxData+1, math.MaxInt)
	for _, most := range []int{len(b) - 1, len(b) / 2, 1, 0, -1, -len(b), math.MinInt32, math.MinInt} {
		if y, err := Unpack(x, most); err != api.ErrLimit || y != nil {
			t.Fatalf("%s, at most %d of %d: %.100x, error %d; want 5", name, most, len(b), y, err)
		}
	}
	return x
}

// back fails unless b is packed, to no more than it may be, and comes out again with each of these as the most; it tells what it is, packed.
func back(t *testing.T, name string, b []byte, mosts ...int) []byte {
	t.Helper()
	x, is := Pack(b)
	if !is {
		t.Fatalf("%s: refused", name)
	}
	if at, _ := picture.Parse(b); len(x) > len(b)+at.Height+64 {
		t.Fatalf("%s: %d of %d bytes, of %d rows", name, len(x), len(b), at.Height)
	}
	for _, most := range mosts {
		if y, err := Unpack(x, most); err != api.OK || !bytes.Equal(y, b) {
			t.Fatalf("%s, at most %d: %.100x, error %d; want %.100x", name, most, y, err, b)
		}
	}
	return x
}

// refused fails unless b is not packed.
func refused(t *testing.T, name string, b []byte) {
	t.Helper()
	if x, is := Pack(b); is || x != nil {
		t.Errorf("%s: %.100x, %t", name, x, is)
	}
}

func TestWhatIsPackedIsUnpacked(t *testing.T) { // P19.1: of each kind of rows, with all that may be behind them
	for name, shade := range shades() {
		for _, planes := range []int{1, 3} {
			for width := 1; width <= 9; width++ {
				for _, height := range []int{1, 2, 3, 17} {
					s := shape{width, height, planes}
					l := luck(width)
					pixels := l.pixels(s, shade)
					whole(t, name+", "+s.String(), bmp(s, 54, "\x00\x00\x00", pixels))
					whole(t, name+", "+s.String(), pnm(s, pixels))
				}
			}
		}
	}
}

func TestFilesThatSayOtherThings(t *testing.T) { // P19.1, what follows: whatever else the file says of itself
	for name, shade := range shades() {
		for _, s := range []shape{{1, 1, 1}, {5, 4, 1}, {4, 3, 3}, {6, 7, 3}, {1, 9, 3}} {
			l := luck(1)
			for oddness, b := range odd(s, l.pixels(s, shade)) {
				whole(t, name+", "+oddness+", "+s.String(), b)
			}
		}
	}
}

func TestAnyFile(t *testing.T) { // P19.1: taken, if, and only if, picture.Parse takes it, however it is spoilt
	taken := 0
	for seed := range 4000 {
		l := luck(seed)
		s := shape{1 + l.below(8), 1 + l.below(8), one(&l, 1, 3)}
		files := odd(s, l.pixels(s, shades()[one(&l, "none", "soft", "noise")]))
		b := bytes.Clone(files[one(&l, "a BMP file", "colours", "from above", "a byte behind", "a PNM file", "remarks", "blanks")])
		for range l.below(3) {
			b[l.below(min(len(b), 60))] ^= 1 << l.below(8)
		}
		b = b[:len(b)-l.below(8)*l.below(8)/7]
		if _, is := picture.Parse(b); is {
			whole(t, "spoilt", b)
			taken++
			continue
		}
		refused(t, "spoilt", b)
	}
	if taken < 500 || taken > 3500 {
		t.Errorf("of 4000 files %d are taken", taken)
	}
}

func TestNoImage(t *testing.T) { // P19.1: what picture.Parse does not take, and the chapter's example
	made := bmp(shape{2, 2, 3}, 54, "\x00\x00\x00", make([]byte, 12))
	other := func(at int, v byte) []byte {
		b := bytes.Clone(made)
		b[at] = v
		return b
	}
	for name, b := range map[string][]byte{
		"nil":               nil,
		"nothing":           {},
		"BM":                []byte("BM"),
		"P5":                []byte("P5"),
		"zeros":             make([]byte, 100),
		"text":              bytes.Repeat([]byte("a text "), 50),
		"its head":          made[:54],
		"a byte less":       made[:len(made)-1],
		"no BM":             other(1, 'm'),
		"an early row":      other(10, 53),
		"a late row":        other(10, 55),
		"a short head":      other(14, 39),
		"no pixels":         other(18, 0),
		"too many pixels":   other(20, 1),
		"no rows":           other(22, 0),
		"a row too many":    other(22, 3),
		"two layers":        other(26, 2),
		"16 bits":           other(28, 16),
		"packed":            other(30, 1),
		"no pixels of PNM":  []byte("P5 0 1 255 x"),
		"no rows of PNM":    []byte("P5 1 0 255 x"),
		"PNM, a byte less":  []byte("P6 1 1 255 xy"),
		"PNM of text":       []byte("P3 1 1 255 1 2 3"),
		"PNM of two bytes":  []byte("P5 1 1 256 xy"),
		"PNM of six digits": []byte("P5 000001 1 255 x"),
	} {
		refused(t, name, b)
	}
	whole(t, "as made", made)
	whole(t, "as made", []byte("P6 1 1 255 xyz"))
}

func TestFilesOfMany(t *testing.T) { // P19.1: MaxData bytes, and not one more
	for _, s := range []shape{{1000, 1048, 1}, {1023, 341, 3}} {
		for _, name := range []string{"the same", "noise"} {
			l := luck(3)
			for _, b := range [][]byte{pnm(s, l.pixels(s, shades()[name])), bmp(s, 310, "\x00\x00\x00", l.pixels(s, shades()[name]))} {
				b = append(b, make([]byte, api.MaxData+1-len(b))...)
				x := back(t, name, b[:api.MaxData], api.MaxData)
				if y, err := Unpack(x, api.MaxData-1); err != api.ErrLimit || y != nil {
					t.Errorf("%s, at most one less: %d bytes, error %d; want 5", name, len(y), err)
				}
				refused(t, "one more", b)
			}
		}
	}
	short := []byte("P6 1 1 255 xyz")
	whole(t, "many behind", append(bytes.Clone(short), make([]byte, api.MaxData-len(short))...))
	refused(t, "one more behind", append(bytes.Clone(short), make([]byte, api.MaxData-len(short)+1)...))
	for more := range 2 {
		b := slices.Concat([]byte("P5 2 2#"), bytes.Repeat([]byte{'a'}, api.MaxData-16+more), []byte("\n255 1234"))
		if more == 0 {
			whole(t, "many ahead", b)
		} else {
			refused(t, "one more ahead", b)
		}
	}
	whole(t, "pixels late", bmp(shape{1, 1, 3}, api.MaxData-4, "\x00\x00\x00", []byte{1, 2, 3}))
}

func TestLongSides(t *testing.T) { // P19.1: as wide and as high as images may be
	for _, s := range []shape{{1, 32768, 1}, {2, 32768, 3}, {32768, 1, 1}, {32768, 1, 3}, {32768, 10, 3}, {32767, 2, 1}} {
		for _, name := range []string{"none", "soft", "noise"} {
			l := luck(4)
			pixels := l.pixels(s, shades()[name])
			back(t, name+", "+s.String(), bmp(s, 54, "abc", pixels), api.MaxData)
			back(t, name+", "+s.String(), pnm(s, pixels), api.MaxData)
		}
	}
}

func TestSmoothOnesAreLittle(t *testing.T) { // what the layer is for: of pixels that are like their neighbours little is left to say
	for name, share := range map[string]int{"the same": 100, "across": 60, "down": 60, "slanted": 40, "grey": 2, "soft": 2} {
		for _, s := range []shape{{211, 90, 1}, {150, 90, 3}} {
			l := luck(5)
			pixels := l.pixels(s, shades()[name])
			for _, b := range [][]byte{pnm(s, pixels), bmp(s, 54, "\x00\x00\x00", pixels)} {
				small, err := stream.Pack(whole(t, name, b), 2)
				if err != api.OK || share*len(small) > len(b) {
					t.Errorf("%s, %s: %d of %d bytes", name, s, len(small), len(b))
				}
			}
		}
	}
}
