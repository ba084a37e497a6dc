package filter

import (
	"bytes"
	"compress/zlib"
	"encoding/binary"
	"image"
	"image/png"
	"io"
	"slices"
	"testing"

	"valise/api"
)

// apply fails unless b is applied as the chapter's words say, and undone.
func apply(t *testing.T, b []byte, width, planes int) {
	t.Helper()
	got, err := Apply(b, width, planes)
	if want, fault := applyByWords(b, width, planes); err != fault || !bytes.Equal(got, want) {
		t.Fatalf("Apply(%.60x, %d, %d): %.60x, error %d; by words %.60x, error %d", b, width, planes, got, err, want, fault)
	}
	if err == api.OK {
		comesBack(t, b, got, width, planes)
	}
}

// undo fails unless x is undone as the chapter's words say.
func undo(t *testing.T, x []byte, width, planes int) {
	t.Helper()
	got, err := Undo(x, width, planes)
	if want, fault := undoByWords(x, width, planes); err != fault || !bytes.Equal(got, want) {
		t.Fatalf("Undo(%.60x, %d, %d): %.60x, error %d; by words %.60x, error %d", x, width, planes, got, err, want, fault)
	}
}

// comesBack fails unless x is undone to b.
func comesBack(t *testing.T, b, x []byte, width, planes int) {
	t.Helper()
	if back, err := Undo(x, width, planes); err != api.OK || !bytes.Equal(back, b) {
		t.Fatalf("Undo of what Apply makes of %.60x, %d, %d: %.60x, error %d", b, width, planes, back, err)
	}
}

// refused fails unless the error is that, and nothing is answered beside it.
func refused(t *testing.T, what string, got []byte, err, want api.Errno) {
	t.Helper()
	if err != want || got != nil {
		t.Errorf("%s: %d bytes, error %d; want none, error %d", what, len(got), err, want)
	}
}

// joined is parts, one behind the other.
func joined(parts ...[]byte) []byte {
	return bytes.Join(parts, nil)
}

func TestApplyOfKnown(t *testing.T) { // P17.3
	for _, c := range []struct {
		what          string
		b             []byte
		width, planes int
		want          []byte
	}{
		{"a row", []byte{5, 7}, 2, 1, []byte{1, 5, 2}},
		{"a row twice", []byte{5, 7, 5, 7}, 2, 1, []byte{1, 5, 2, 2, 0, 0}},
		{"rows of one byte", []byte{9, 9, 0, 255}, 1, 1, []byte{0, 9, 2, 0, 0, 0, 0, 255}},
		{"rows of one byte, of more planes", []byte{9, 9, 0, 255}, 1, 4, []byte{0, 9, 2, 0, 0, 0, 0, 255}},
		{"a row begins anew", []byte{50, 50, 50, 50, 51, 51, 51, 51}, 4, 1, []byte{1, 50, 0, 0, 0, 3, 1, 0, 0, 0}},
		{"two planes", []byte{9, 90, 9, 90}, 4, 2, []byte{1, 9, 90, 0, 0}},
		{"one plane", []byte{9, 90, 9, 90}, 4, 1, []byte{0, 9, 90, 9, 90}},
		{"all kinds",
			joined([]byte{50, 50, 90, 90, 90, 90}, []byte{50, 50, 90, 90, 20, 20}, []byte{25, 37, 63, 76, 48, 34}, []byte{80, 80, 80, 80, 80, 80}, []byte{255, 1, 0, 0, 1, 0}, []byte{255, 1, 0, 1, 1, 0}), 6, 1,
			joined([]byte{1, 50, 0, 40, 0, 0, 0}, []byte{3, 0, 0, 0, 0, 186, 0}, []byte{4, 0, 0, 0, 0, 0, 0}, []byte{1, 80, 0, 0, 0, 0, 0}, []byte{0, 255, 1, 0, 0, 1, 0}, []byte{2, 0, 0, 0, 1, 0, 0})},
	} {
		if got, err := Apply(c.b, c.width, c.planes); err != api.OK || !bytes.Equal(got, c.want) {
			t.Errorf("%s: %d, error %d; want %d", c.what, got, err, c.want)
		}
		apply(t, c.b, c.width, c.planes)
		undo(t, c.want, c.width, c.planes)
	}
}

func TestApplyOfAllShapes(t *testing.T) { // P17.3, what follows
	l := luck(6)
	b := l.bytes(240)
	for size := range 61 {
		for width := -1; width <= 62; width++ {
			for planes := -1; planes <= 6; planes++ {
				apply(t, b[:size], width, planes)
			}
		}
	}
	for planes := 1; planes <= 4; planes++ {
		for width := 1; width <= 240; width++ {
			apply(t, b[:240/width*width], width, planes)
		}
	}
}

func TestApplyOfAny(t *testing.T) { // P17.3, what follows: rows of images, and others
	for seed := range 3000 {
		l := luck(seed)
		width, planes := 1+l.below(30), 1+l.below(4)
		var b, up []byte
		for range l.below(9) {
			up = one(&l, l.pixels(width, up, planes), l.pixels(width, up, planes), l.bytes(width))
			b = append(b, up...)
		}
		apply(t, b, width, planes)
		apply(t, b, width, 1+l.below(4))
		apply(t, l.bytes(l.below(100)), 1+l.below(10), l.planes())
	}
}

func TestUndoOfAny(t *testing.T) { // P17.3: of any kinds, the best ones or not
	errors := map[api.Errno]int{}
	for seed := range 6000 {
		l := luck(seed)
		width := 1 + l.below(20)
		x := l.bytes((width + 1) * l.below(9))
		for i := 0; i < len(x); i += width + 1 {
			x[i] = byte(l.below(5))
			if l.below(30) == 0 {
				x[i] = byte(l.below(256))
			}
		}
		planes := one(&l, 1, 2, 3, 4, l.planes())
		x = x[:len(x)-min(len(x), one(&l, 0, 0, 0, 0, 0, 1, 2))]
		undo(t, x, width, planes)
		_, err := Undo(x, width, planes)
		errors[err]++
	}
	for _, err := range []api.Errno{api.OK, api.ErrArg, api.ErrForm} {
		if errors[err] < 300 {
			t.Errorf("the error %d is answered %d times only", err, errors[err])
		}
	}
}

func TestUndoOfAllKinds(t *testing.T) { // P17.3: ErrForm, if one is above 4, whatever the pixels are
	for kind := range 256 {
		for place := range 3 {
			x := []byte{1, 5, 200, 4, 255, 7, 3, 6, 128}
			x[place*3] = byte(kind)
			undo(t, x, 2, 1)
			got, err := Undo(x, 2, 1)
			if kind > 4 {
				refused(t, "a kind that is none", got, err, api.ErrForm)
			} else if err != api.OK || len(got) != 6 {
				t.Errorf("the kind %d: %x, error %d", kind, got, err)
			}
			x = []byte{1, 5, 200, 4, 255, 7, 3, 6, 128}
			x[place*3+1], x[place*3+2] = byte(kind), byte(kind)
			if got, err := Undo(x, 2, 1); err != api.OK || len(got) != 6 {
				t.Errorf("the pixels %d: %x, error %d", kind, got, err)
			}
		}
	}
}

func TestApplyOfNothing(t *testing.T) { // P17.3, R3: no rows
	for _, b := range [][]byte{nil, {}, make([]byte, 0, 9)} {
		for _, width := range []int{1, 2, 7, api.MaxData - 1, api.MaxData} {
			for planes := 1; planes <= 4; planes++ {
				x, err := Apply(b, width, planes)
				y, fault := Undo(b, width, planes)
				if err != api.OK || fault != api.OK || len(x) > 0 || len(y) > 0 {
					t.Errorf("of width %d, %d planes: %d, %d, errors %d, %d", width, planes, x, y, err, fault)
				}
			}
		}
	}
}

func TestApplyRefuses(t *testing.T) { // P17.3, R4
	for _, size := range []int{0, 1, 2, 6, 256, 1 << 16} {
		b := make([]byte, size)
		for _, width := range []int{0, -1, -2, -6, -256, least, least + 1, api.MaxData + 1, api.MaxData + 2, 1 << 21, most - 1, most} {
			for planes := 1; planes <= 4; planes++ {
				got, err := Apply(b, width, planes)
				refused(t, "Apply of a width that may not be", got, err, api.ErrArg)
				got, err = Undo(b, width, planes)
				refused(t, "Undo of a width that may not be", got, err, api.ErrArg)
			}
		}
		for _, planes := range strange() {
			for _, width := range []int{1, 2} {
				got, err := Apply(b, width, planes)
				refused(t, "Apply of planes that may not be", got, err, api.ErrArg)
				got, err = Undo(b[:size/(width+1)*(width+1)], width, planes)
				refused(t, "Undo of planes that may not be", got, err, api.ErrArg)
			}
		}
	}
	for width := 1; width <= 20; width++ {
		for size := range 50 {
			got, err := Apply(make([]byte, size), width, 1)
			if size%width > 0 {
				refused(t, "Apply of no whole rows", got, err, api.ErrArg)
			}
			got, err = Undo(make([]byte, size), width, 1)
			if size%(width+1) > 0 {
				refused(t, "Undo of no whole rows", got, err, api.ErrArg)
			}
		}
	}
}

func TestUndoTellsTheFirstError(t *testing.T) { // P17.3, R5: ErrArg ahead of ErrForm
	x := []byte{5, 1, 255, 1}
	for _, c := range []struct {
		size, width, planes int
		want                api.Errno
	}{{4, 1, 1, api.ErrForm}, {4, 3, 4, api.ErrForm}, {3, 1, 1, api.ErrArg}, {4, 2, 1, api.ErrArg}, {4, 1, 0, api.ErrArg}, {4, 1, 5, api.ErrArg}, {4, 0, 1, api.ErrArg}, {4, -1, 1, api.ErrArg}, {4, -2, 1, api.ErrArg}, {2, 1, 1, api.ErrForm}, {1, 1, 1, api.ErrArg}} {
		got, err := Undo(x[:c.size], c.width, c.planes)
		refused(t, "rows of no kind", got, err, c.want)
	}
	got, err := Undo(bytes.Repeat([]byte{9}, 2*api.MaxData+2), 1, 1)
	refused(t, "too many rows of no kind", got, err, api.ErrArg)
}

func TestApplyOfAsMuchAsMayBe(t *testing.T) { // P17.3: MaxData bytes, and no more; of x as many more as there are rows
	l := luck(7)
	b := l.bytes(api.MaxData + 2000)
	for _, width := range []int{1, 2, 3, 1000, 1024, 1 << 19, api.MaxData/2 + 1, api.MaxData - 1, api.MaxData} {
		rows := api.MaxData / width
		x, err := Apply(b[:rows*width], width, 3)
		if err != api.OK || len(x) != rows*width+rows {
			t.Fatalf("Apply of %d rows of %d bytes: %d bytes, error %d", rows, width, len(x), err)
		}
		comesBack(t, b[:rows*width], x, width, 3)
		more := b
		if (rows+1)*width > len(b) {
			more = make([]byte, (rows+1)*width)
		}
		got, err := Apply(more[:(rows+1)*width], width, 3)
		refused(t, "Apply of a row too many", got, err, api.ErrArg)
		got, err = Undo(append(x, make([]byte, width+1)...), width, 3)
		refused(t, "Undo of a row too many", got, err, api.ErrArg)
	}
}

// packedRows are the rows of an image as another program turned them, and how wide they are.
func packedRows(t *testing.T, img image.Image) (rows []byte) {
	t.Helper()
	var file, data bytes.Buffer
	if err := png.Encode(&file, img); err != nil {
		t.Fatal(err)
	}
	for b := file.Bytes()[8:]; len(b) > 0; {
		n := binary.BigEndian.Uint32(b)
		if string(b[4:8]) == "IDAT" {
			data.Write(b[8 : 8+n])
		}
		b = b[12+n:]
	}
	r, err := zlib.NewReader(&data)
	if err != nil {
		t.Fatal(err)
	}
	rows, err = io.ReadAll(r)
	if err != nil {
		t.Fatal(err)
	}
	return rows
}

func TestUndoOfPng(t *testing.T) { // P17.3: PNG files have the same kinds, but 3 and 4 are each the other
	var found [5]int
	for seed := range 300 {
		l := luck(seed)
		planes := one(&l, 1, 4)
		side, height := 1+l.below(30), 1+l.below(30)
		width := side * planes
		var b, up []byte
		for range height {
			up = l.pixels(width, up, planes)
			b = append(b, up...)
		}
		var img image.Image = &image.Gray{Pix: b, Stride: width, Rect: image.Rect(0, 0, side, height)}
		if planes == 4 {
			b[3] = 7 // so that it is not taken for one without a fourth plane
			img = &image.NRGBA{Pix: b, Stride: width, Rect: image.Rect(0, 0, side, height)}
		}
		x := packedRows(t, img)
		for i := 0; i < len(x); i += width + 1 {
			x[i] = []byte{0, 1, 2, 4, 3}[x[i]]
			found[x[i]]++
		}
		undo(t, x, width, planes)
		comesBack(t, b, x, width, planes)
		apply(t, b, width, planes)
	}
	if slices.Min(found[:]) < 50 {
		t.Errorf("the kinds come %d times", found)
	}
}
