package audio

import (
	"bytes"
	"math"
	"testing"

	"valise/api"
	"valise/wav"
)

// whole fails unless b is packed, and comes out again wherever it may be so long; it tells what it is, packed.
func whole(t *testing.T, name string, b []byte) []byte {
	t.Helper()
	x := back(t, name, b, len(b), len(b)+1, api.MaxData, api.MaxData+1, math.MaxInt)
	for _, most := range []int{len(b) - 1, len(b) / 2, 1, 0, -1, -len(b), math.MinInt32, math.MinInt} {
		if y, err := Unpack(x, most); err != api.ErrLimit || y != nil {
			t.Fatalf("%s, at most %d of %d: %.100x, error %d; want 5", name, most, len(b), y, err)
		}
	}
	return x
}

// back fails unless b is packed, and comes out again with each of these as the most; it tells what it is, packed.
func back(t *testing.T, name string, b []byte, mosts ...int) []byte {
	t.Helper()
	x, is := Pack(b)
	if !is {
		t.Fatalf("%s: refused", name)
	}
	for _, most := range mosts {
		if y, err := Unpack(x, most); err != api.OK || !bytes.Equal(y, b) {
			t.Fatalf("%s, at most %d: %.100x, error %d; want %.100x", name, most, y, err, b)
		}
	}
	return x
}

// refused fails unless b is not packed.
func refused(t *testing.T, name string, b []byte) {
	t.Helper()
	if x, is := Pack(b); is || x != nil {
		t.Errorf("%s: %.100x, %t", name, x, is)
	}
}

func TestWhatIsPackedIsUnpacked(t *testing.T) { // P15.1: of each kind of samples, of lengths at which a block of residuals begins or ends
	for _, w := range shapes() {
		for name, sound := range sounds() {
			for _, frames := range []int{1, 2, 63, 64, 65, 200} {
				l := luck(frames)
				whole(t, name, wav.Make(w, l.samples(w, frames, sound)))
			}
		}
	}
}

func TestFilesThatSayOtherThings(t *testing.T) { // P15.1, what follows: whatever else the file says of itself
	for _, w := range shapes() {
		for name, sound := range sounds() {
			l := luck(1)
			for oddness, b := range odd(w, l.samples(w, 20, sound)) {
				whole(t, name+", "+oddness, b)
			}
		}
	}
}

func TestAnyFile(t *testing.T) { // P15.1: taken, if, and only if, wav.Parse takes it, however it is spoilt
	taken, kinds := 0, []string{"none", "a hum", "noise"}
	for seed := range 3000 {
		l := luck(seed)
		w := of(1+l.below(8), one(&l, 8, 16))
		files := odd(w, l.samples(w, 1+l.below(30), sounds()[one(&l, kinds...)]))
		b := files[one(&l, "as made", "chunks ahead", "a size of an end", "a chunk behind", "an odd size")]
		for range l.below(3) {
			b[l.below(min(len(b), 80))] ^= 1 << l.below(8)
		}
		b = b[:len(b)-l.below(8)*l.below(8)/7]
		if _, is := wav.Parse(b); is {
			whole(t, "spoilt", b)
			taken++
			continue
		}
		refused(t, "spoilt", b)
	}
	if taken < 500 || taken > 2500 {
		t.Errorf("of 3000 files %d are taken", taken)
	}
}

func TestNoFile(t *testing.T) { // P15.1: what wav.Parse does not take, and the chapter's example
	made := wav.Make(of(2, 16), []byte{1, 2, 3, 4})
	other := func(at int, v byte) []byte {
		b := bytes.Clone(made)
		b[at] = v
		return b
	}
	for name, b := range map[string][]byte{
		"nil":               nil,
		"nothing":           {},
		"RIFF":              []byte("RIFF"),
		"zeros":             make([]byte, 100),
		"text":              bytes.Repeat([]byte("a text "), 50),
		"no samples":        wav.Make(of(2, 16), nil),
		"no whole frame":    wav.Make(of(2, 16), []byte{1, 2, 3}),
		"its head":          made[:44],
		"a byte less":       made[:47],
		"no RIFF":           other(0, 'X'),
		"no WAVE":           other(11, 'F'),
		"no format":         other(15, '_'),
		"a short format":    other(16, 15),
		"another format":    other(20, 2),
		"no channels":       other(22, 0),
		"nine channels":     other(22, 9),
		"24 bits":           other(34, 24),
		"no data":           other(39, 'A'),
		"a byte of samples": other(40, 3),
	} {
		refused(t, name, b)
	}
	whole(t, "as made", made)
}

func TestFilesOfMany(t *testing.T) { // P15.1: MaxData bytes, and not one more
	for _, w := range []api.Wav{of(1, 8), of(7, 16)} {
		for _, name := range []string{"the same", "noise"} {
			l := luck(3)
			samples := l.samples(w, api.MaxData/(w.Channels*w.Bits/8)+1, sounds()[name])
			x := back(t, name, wav.Make(w, samples[:api.MaxData-44]), api.MaxData)
			if y, err := Unpack(x, api.MaxData-1); err != api.ErrLimit || y != nil {
				t.Errorf("%s, at most one less: %d bytes, error %d; want 5", name, len(y), err)
			}
			refused(t, "one more", wav.Make(w, samples[:api.MaxData-43]))
		}
	}
	short := wav.Make(of(1, 8), []byte{9})
	whole(t, "many behind", append(bytes.Clone(short), make([]byte, api.MaxData-len(short))...))
	refused(t, "one more behind", append(bytes.Clone(short), make([]byte, api.MaxData-len(short)+1)...))
	ahead := file(bytes.Repeat(chunk("LIST", 0), (api.MaxData-12-24-9)/8), format(of(1, 8)), chunk("data", 1, 7))
	whole(t, "many ahead", append(ahead, make([]byte, api.MaxData-len(ahead))...))
}
