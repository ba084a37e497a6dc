package picture

import (
	"bytes"
	"strconv"
	"strings"
	"sync"
	"testing"

	"valise/api"
)

// at is where pixels are.
func at(width, height, planes, stride, from int) api.Picture {
	return api.Picture{Width: width, Height: height, Planes: planes, Stride: stride, From: from}
}

// found fails unless pixels are there, and as wanted.
func found(t *testing.T, what string, b []byte, want api.Picture) {
	t.Helper()
	if got, ok := Parse(b); !ok || got != want {
		t.Errorf("%.60s: %+v, %v; want %+v", what, got, ok, want)
	}
	hold(t, b)
}

// lacking fails unless there are none, and nothing is told of them.
func lacking(t *testing.T, what string, b []byte) {
	t.Helper()
	if got, ok := Parse(b); ok || got != (api.Picture{}) {
		t.Errorf("%.60s: %+v, %v; want none", what, got, ok)
	}
	hold(t, b)
}

// hold fails unless b is parsed as the chapter's words say, and what is told lies within b.
func hold(t *testing.T, b []byte) bool {
	t.Helper()
	got, ok := Bmp(b)
	if want, is := bmpByWords(b); got != want || ok != is {
		t.Errorf("Bmp of %.60x: %+v, %v; by words %+v, %v", b, got, ok, want, is)
	}
	other, fits := Pnm(b)
	if want, is := pnmByWords(b); other != want || fits != is {
		t.Errorf("Pnm of %.60q: %+v, %v; by words %+v, %v", b, other, fits, want, is)
	}
	if !ok {
		got, ok = other, fits
	}
	if p, is := Parse(b); p != got || is != ok {
		t.Errorf("Parse of %.60x: %+v, %v; want %+v, %v", b, p, is, got, ok)
	}
	if ok && (got.From < 0 || got.Stride < got.Width*got.Planes || got.From+got.Stride*got.Height > len(b)) {
		t.Errorf("of %d bytes: %+v", len(b), got)
	}
	return ok
}

func TestExample(t *testing.T) { // example 1
	found(t, "an example", []byte("P5 1 1 255 x"), at(1, 1, 1, 1, 11))
}

func TestOfNothing(t *testing.T) { // P16.1, P16.2, R3
	lacking(t, "nil", nil)
	lacking(t, "no bytes", []byte{})
	for a := range 256 {
		lacking(t, "one byte", []byte{byte(a)})
	}
	for n := range 1 << 16 {
		if hold(t, []byte{byte(n >> 8), byte(n)}) || t.Failed() {
			t.Fatalf("the two bytes %04x", n)
		}
	}
}

func TestParse(t *testing.T) { // P16.2: Bmp's, or, if that is false, Pnm's
	b, p := plain(3, 2, 24).file(78), []byte("P6\n2 1\n9\n123456")
	for _, c := range []struct {
		what     string
		b        []byte
		bmp, pnm bool
	}{{"a BMP file", b, true, false}, {"a PNM file", p, false, true}, {"none", bytes.Repeat([]byte("text "), 30), false, false}, {"half a BMP file", b[:70], false, false}, {"half a PNM file", p[:12], false, false}} {
		x, bmp := Bmp(c.b)
		y, pnm := Pnm(c.b)
		z, either := Parse(c.b)
		if bmp != c.bmp || pnm != c.pnm || either != (c.bmp || c.pnm) {
			t.Errorf("%s: %v, %v, %v", c.what, bmp, pnm, either)
		}
		if want := map[bool]api.Picture{true: x, false: y}[bmp]; z != want || either == (z == api.Picture{}) {
			t.Errorf("%s: %+v; want %+v", c.what, z, want)
		}
	}
}

func TestOfOtherFiles(t *testing.T) { // P16.1, P16.2
	for _, s := range []string{"\x89PNG\r\n\x1a\n", "GIF89a", "\xff\xd8\xff\xe0", "RIFF", "P1 1 1 1", "P2 1 1 255 7", "P3 1 1 255 7 7 7", "P4 1 1 x", "P7\nWIDTH 1\n", "BA", "PK\x03\x04"} {
		what := strconv.Quote(s)
		lacking(t, what, []byte(s))
		lacking(t, what+" and more", append([]byte(s), make([]byte, 200)...))
		lacking(t, what+" and numbers", []byte(s+strings.Repeat(" 1", 100)))
	}
}

func TestOfAny(t *testing.T) { // P16.1, P16.2: against the words of the promises
	for what, file := range map[string]func(l *luck) []byte{"BMP": (*luck).bmp, "PNM": (*luck).pnm} {
		taken := 0
		for seed := range 60000 {
			l := luck(seed)
			b := file(&l)
			if l.below(4) == 0 && len(b) > 0 {
				b[l.below(min(len(b), 54))] ^= 1 << l.below(8)
			}
			if hold(t, b) {
				taken++
			}
			if t.Failed() {
				t.Fatalf("a %s file by the seed %d", what, seed)
			}
		}
		if taken < 10000 || taken > 50000 {
			t.Errorf("pixels are found in %d of 60000 %s files", taken, what)
		}
	}
}

func TestInputsStayAsTheyAre(t *testing.T) { // R3: with the room behind their ends
	for seed := range 5000 {
		l := luck(seed)
		b := append(one(&l, l.bmp(), l.pnm()), "P5 1 1 1 #BM"...)
		before := bytes.Clone(b)
		n := l.below(len(b) + 1)
		Bmp(b[:n])
		Pnm(b[:n])
		Parse(b[:n])
		if !bytes.Equal(b, before) {
			t.Fatalf("seed %d: what was handed in is turned", seed)
		}
	}
}

func TestRoomIsNotRead(t *testing.T) { // P16.1, P16.2, R3: what is behind the end is not there
	for _, b := range [][]byte{plain(3, 2, 24).file(90), []byte("P5 #a\n 2 2 255 abcd")} {
		for n := range b {
			want, is := Parse(bytes.Clone(b[:n:n]))
			if got, ok := Parse(b[:n]); got != want || ok != is {
				t.Errorf("the first %d bytes: %+v; want %+v", n, got, want)
			}
		}
	}
}

func TestNothingGoesOnBeside(t *testing.T) { // R2: calls at one time are answered as if each were alone
	shared := plain(7, -9, 24).file(300)
	var join sync.WaitGroup
	for worker := range 8 {
		join.Go(func() {
			for seed := range 300 {
				l := luck(seed + worker)
				hold(t, l.bmp())
				hold(t, l.pnm())
				hold(t, shared)
			}
		})
	}
	join.Wait()
}

func BenchmarkPicture(b *testing.B) {
	for name, file := range map[string][]byte{
		"a BMP file":    plain(1000, 300, 24).file(api.MaxData),
		"a PNM file":    append([]byte("P6 500 500 255 "), make([]byte, api.MaxData)...)[:api.MaxData],
		"one remark":    append([]byte("P5#"), make([]byte, api.MaxData)...)[:api.MaxData],
		"many remarks":  append([]byte("P5"), bytes.Repeat([]byte("#\n"), api.MaxData/2)...)[:api.MaxData],
		"another thing": make([]byte, api.MaxData),
	} {
		b.Run("Parse of "+name, func(b *testing.B) {
			b.SetBytes(api.MaxData)
			for b.Loop() {
				Parse(file)
			}
		})
	}
}

func FuzzParse(f *testing.F) {
	f.Add(plain(3, 2, 24).file(78))
	f.Add(plain(5, -1, 8).file(62))
	f.Add([]byte("P6\n2 1\n9\n123456"))
	f.Add([]byte("P5#a\n# b\n\t00002#c\n 1\r\n1\rxyz"))
	f.Fuzz(func(t *testing.T, b []byte) {
		hold(t, b)
	})
}
