package audio

import (
	"bytes"
	"math"
	"slices"
	"testing"

	"valise/api"
	"valise/num"
	"valise/tracks"
	"valise/wav"
)

// hold fails unless Unpack tells what it may of any bytes: a file that is packed to them, at most so long, or an error and nothing beside it.
func hold(t *testing.T, x []byte, most int) (taken bool) {
	t.Helper()
	y, err := Unpack(x, most)
	if err == api.OK {
		if again, is := Pack(y); !is || !bytes.Equal(again, x) || len(y) > most {
			t.Fatalf("%.200x, at most %d: %.100x, which is packed to %.200x", x, most, y, again)
		}
		return true
	}
	if y != nil || !slices.Contains([]api.Errno{api.ErrLimit, api.ErrForm, api.ErrShort}, err) {
		t.Fatalf("%.200x, at most %d: %.100x, error %d", x, most, y, err)
	}
	return false
}

// wrong fails unless x is told to be nothing that Pack makes.
func wrong(t *testing.T, name string, x []byte) {
	t.Helper()
	if y, err := Unpack(x, api.MaxData); y != nil || err != api.ErrForm && err != api.ErrShort {
		t.Errorf("%s: %.100x, error %d; want 3 or 4", name, y, err)
	}
}

// few are files of some kinds, packed.
func few(t *testing.T) map[string][]byte {
	t.Helper()
	all := map[string][]byte{}
	for _, w := range []api.Wav{of(1, 8), of(2, 16), of(3, 8), of(8, 16)} {
		for _, name := range []string{"the same", "a hum", "noise"} {
			l := luck(2)
			for oddness, b := range odd(w, l.samples(w, 13, sounds()[name])) {
				if oddness == "as made" || oddness == "chunks ahead" || oddness == "a chunk behind" {
					key := name + ", " + oddness + string(rune('0'+w.Channels))
					all[key] = whole(t, key, b)
				}
			}
		}
	}
	return all
}

func TestTooShortOrTooLong(t *testing.T) { // P15.1: each beginning, and bytes more
	for name, x := range few(t) {
		for n := range x {
			wrong(t, name+", cut off", x[:n])
			hold(t, x[n:], api.MaxData)
		}
		for _, more := range [][]byte{{0}, {1}, {128}, {255}, {0, 0}, x} {
			wrong(t, name+", and more", slices.Concat(x, more))
		}
	}
}

func TestSpoiltOnes(t *testing.T) { // P15.1: each bit turned is refused, or what another file is packed to
	for name, x := range few(t) {
		refused := 0
		for i := range 8 * len(x) {
			z := bytes.Clone(x)
			z[i/8] ^= 1 << (i % 8)
			if !hold(t, z, api.MaxData) {
				refused++
			}
			hold(t, z, 60)
		}
		if refused < 20 {
			t.Errorf("%s: of %d bits %d count", name, 8*len(x), refused)
		}
	}
}

func TestSpoiltTwice(t *testing.T) { // P15.1
	l := luck(4)
	for range 2 {
		for _, x := range few(t) {
			for range 100 {
				z := bytes.Clone(x)
				for range 2 + l.below(4) {
					z[l.below(len(z))] = one(&l, 0, 1, 127, 128, 255, byte(l.below(256)))
				}
				i, j := l.below(len(z)), l.below(len(z))
				hold(t, z, l.below(3000))
				hold(t, slices.Concat(z[:i], z[j:]), l.below(3000))
			}
		}
	}
}

func TestUnpackOfAny(t *testing.T) { // P15.1, R1: any bytes, any most
	mosts := []int{math.MinInt, -1, 0, 1, 44, 45, 1000, api.MaxData, api.MaxData + 1, math.MaxInt}
	for seed := range 5000 {
		l := luck(seed)
		hold(t, l.bytes(l.below(90)), one(&l, mosts...))
	}
	for _, v := range []byte{0, 1, 127, 128, 254, 255} {
		for size := range 40 {
			for _, most := range mosts {
				hold(t, bytes.Repeat([]byte{v}, size), most)
			}
		}
	}
	for i := range 1 << 16 {
		wrong(t, "two bytes", []byte{byte(i) & 0x7f, byte(i >> 8)})
	}
}

func TestUnpackOfNothing(t *testing.T) { // P15.1: nothing is packed to no bytes, nor is the file of none
	for _, x := range [][]byte{nil, {}, make([]byte, 0, 9), {0}, {0, 0, 0}, make([]byte, 1000)} {
		wrong(t, "nothing", x)
		if y, err := Unpack(x, 0); y != nil || err != api.ErrForm && err != api.ErrShort {
			t.Errorf("%x, at most 0: %x, error %d", x, y, err)
		}
	}
}

// laid is what a file would be packed to, if all that may be otherwise were so: its size, what is ahead and behind, and for each track its group's way and its tag.
func laid(size uint64, head, tail []byte, all [][]int32, way int, tags ...int) []byte {
	var w writer
	w.Num(size)
	w.Text(head)
	w.Text(tail)
	for group := range slices.Chunk(all, groupSize) {
		if way == mid && len(group) == groupSize {
			m, s, _ := tracks.Mid(group[0], group[1])
			group = [][]int32{m, s}
		}
		w.Num(uint64(way))
		for _, l := range group {
			w.Num(uint64(tags[0]))
			w.Text(packerOf(min(tags[0], learningTag)).pack(l))
			tags = tags[1:]
		}
	}
	return w.Bytes()
}

func TestOtherWritings(t *testing.T) { // P15.1: the right file, but not as Pack writes it; just one way of all is the right one
	for _, name := range []string{"the same", "rising", "curved", "a tone", "a hum", "soft", "noise", "none"} {
		l := luck(5)
		w := of(2, 16)
		samples := l.samples(w, 100, sounds()[name])
		b := wav.Make(w, samples)
		all, _ := tracks.Split(samples, w.Channels, w.Bits)
		right := 0
		for way := range mid + 2 {
			for tags := range 36 {
				x := laid(uint64(len(b)), b[:44], nil, all, way, tags/6, tags%6)
				if hold(t, x, len(b)) {
					right++
				}
			}
		}
		if right != 1 {
			t.Errorf("%s: %d writings are taken", name, right)
		}
	}
}

func TestOtherPlaces(t *testing.T) { // P15.1: samples elsewhere than the file has them, or more or fewer
	b := wav.Make(of(1, 8), bytes.Repeat([]byte{128}, 50))
	zeros := func(n int) [][]int32 { return [][]int32{make([]int32, n)} }
	lay := func(size uint64, head, tail []byte, all [][]int32) []byte {
		return laid(size, head, tail, all, apart, 0, 0)
	}
	tall := []int32{128}
	if x := lay(94, b[:44], nil, zeros(50)); !bytes.Equal(x, whole(t, "as it is", b)) {
		t.Fatalf("laid as %x", x)
	}
	for name, x := range map[string][]byte{
		"a sample ahead":             lay(94, b[:45], nil, zeros(49)),
		"a sample behind":            lay(94, b[:44], b[93:], zeros(49)),
		"all ahead":                  lay(94, b, nil, zeros(50)),
		"eight samples less":         lay(94, b[:44], nil, zeros(42)), // of one less the residuals are the same bytes
		"a block more":               lay(94, b[:44], nil, zeros(120)),
		"a track more":               lay(94, b[:44], nil, append(zeros(50), zeros(50)...)),
		"a group more":               append(lay(94, b[:44], nil, zeros(50)), written(apart, zeros(50)...)...),
		"no tracks":                  lay(94, b[:44], nil, nil),
		"no head":                    lay(94, nil, nil, zeros(50)),
		"half a head":                lay(94, b[:22], nil, zeros(50)),
		"a head that ends too early": lay(94, b[:43], nil, zeros(50)),
		"a size of a head":           lay(44, b[:44], nil, zeros(50)),
		"a lesser size than a head":  lay(43, b[:44], nil, zeros(50)),
		"a lesser size than both":    lay(60, b[:44], b[:44], zeros(50)),
		"another size":               lay(95, b[:44], nil, zeros(50)),
		"a size of 1":                lay(1, b[:44], nil, zeros(50)),
		"a sample that is none":      lay(45, append(b[:40:40], 1, 0, 0, 0), nil, [][]int32{tall}),
		"a middle of one":            laid(94, b[:44], nil, zeros(50), mid, 0),
	} {
		wrong(t, name, x)
	}
	for _, size := range []uint64{api.MaxData + 1, 1 << 32, 1<<32 + 94, 1 << 63, 1<<64 - 1} { // ahead of what else is wrong
		for _, all := range [][][]int32{zeros(50), nil} {
			if y, err := Unpack(lay(size, b[:44], nil, all), math.MaxInt); err != api.ErrLimit || y != nil {
				t.Errorf("a size of %d: %x, error %d; want 5", size, y, err)
			}
		}
	}
}

func TestSamplesThatAreNone(t *testing.T) { // P15.1: whatever comes of residuals, it is no file unless samples may be so
	b := wav.Make(of(2, 8), []byte{128, 128, 128, 128})
	for _, v := range []int32{127, -128, 128, -129, 1 << 15, 1<<31 - 1, -1 << 31} {
		for way := range 2 {
			for tag := range learningTag + 1 {
				hold(t, laid(uint64(len(b)), b[:44], nil, [][]int32{{v, 0}, {0, v}}, way, tag, tag), api.MaxData)
				hold(t, laid(uint64(len(b)), b[:44], nil, [][]int32{{v, v}, {-v, v}}, way, tag, 0), api.MaxData)
			}
		}
	}
}

func TestNumbersAtFault(t *testing.T) { // P15.1: a number ahead that has no right form
	var w num.Writer
	w.Raw([]byte{0xde, 0x00}) // 94, but longer than it need be
	b := wav.Make(of(1, 8), make([]byte, 50))
	x := whole(t, "as it is", b)
	w.Raw(x[1:])
	wrong(t, "a longer number", w.Bytes())
	wrong(t, "a number without an end", bytes.Repeat([]byte{0x80}, 9))
	wrong(t, "a number that is too great", bytes.Repeat([]byte{0xff}, 11))
}
