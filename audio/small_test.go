package audio

import (
	"bytes"
	"slices"
	"testing"

	"valise/api"
	"valise/fixed"
	"valise/lms"
	"valise/tracks"
	"valise/wav"
)

// quarter fails unless b is packed to a quarter at most.
func quarter(t *testing.T, name string, b []byte) {
	t.Helper()
	if x, is := Pack(b); !is || 4*len(x) > len(b) {
		t.Errorf("%s: %t, %d of %d bytes", name, is, len(x), len(b))
	}
}

func TestSmallOfAllSizes(t *testing.T) { // P15.2: of 2,048 bytes, and more, whole frames or not, each channel at another place
	for _, w := range shapes() {
		b := still(w, 4000, func(c int) int { return 37*c - 120 })
		for size := 2048; size < 2048+150; size++ {
			quarter(t, "samples", wav.Make(w, b[44:size]))
		}
		quarter(t, "many samples", still(w, 100000, func(c int) int { return 127 - 20*c }))
	}
}

func TestSmallOfAllPlaces(t *testing.T) { // P15.2: wherever the channels stay
	for v := -128; v < 128; v++ {
		for _, w := range []api.Wav{of(1, 8), of(2, 8), of(5, 8), of(8, 8)} {
			quarter(t, "8 bits", still(w, 2048, func(int) int { return v }))
			quarter(t, "8 bits, to and fro", still(w, 2048, func(c int) int { return []int{v, -1 - v}[c%2] }))
		}
	}
	for v := -1 << 15; v < 1<<15; v += 271 {
		for _, w := range []api.Wav{of(1, 16), of(2, 16), of(7, 16), of(8, 16)} {
			quarter(t, "16 bits", still(w, 2048, func(int) int { return v }))
			quarter(t, "16 bits, to and fro", still(w, 2048, func(c int) int { return []int{v, -1 - v}[c%2] }))
		}
	}
	for _, w := range shapes() {
		for _, v := range []int{0, 1, -1, 1<<(w.Bits-1) - 1, -1 << (w.Bits - 1)} {
			quarter(t, "the ends", still(w, 2048, func(int) int { return v }))
			quarter(t, "one of all", still(w, 2048, func(c int) int { return []int{v, 0}[min(c, 1)] }))
		}
	}
}

func TestPredictorsTakeAwayAndRestore(t *testing.T) { // P15.1: each packer by the predictor that is embedded
	l := luck(6)
	row := make([]int32, 150)
	for i := range row {
		row[i] = int32(l.below(1<<16) - 1<<15)
	}
	for tag := range learningTag + 1 {
		p, left := packerOf(tag), lms.Residual(row)
		if tag < learningTag {
			left = fixed.Residual(row, tag)
		}
		if p.tag != tag || !slices.Equal(p.residual(row), left) || !slices.Equal(p.restore(left), row) {
			t.Errorf("tag %d: %v", tag, p.residual(row))
		}
		if again, err := p.unpack(p.pack(row), len(row)); err != api.OK || !slices.Equal(again, row) {
			t.Errorf("tag %d: unpacked %v, error %d", tag, again, err)
		}
	}
}

func TestShortestPackerIsTaken(t *testing.T) { // each of the packers somewhere, and of no track one that makes more of it
	for want, sound := range []struct {
		frames int
		at     func(l *luck, channel, frame, bits int) int
	}{
		{200, sounds()["noise"]},
		{200, sounds()["the same"]},
		{200, func(_ *luck, _, n, _ int) int { return 7*n - 700 }},
		{200, func(_ *luck, _, n, _ int) int { return n * (n - 1) / 2 }},
		{3000, func(_ *luck, _, n, _ int) int { return []int{12, 900, -40, 333}[n%4] }},
	} {
		l := luck(7)
		all, _ := tracks.Split(l.samples(of(1, 16), sound.frames, sound.at), 1, 16)
		tag, b := shortest(all[0])
		if tag != want {
			t.Errorf("tag %d; want %d", tag, want)
		}
		for _, other := range []int{fixed.Best(all[0]), learningTag} {
			if least := packerOf(other).pack(all[0]); len(least) < len(b) {
				t.Errorf("tag %d makes %d bytes, where tag %d makes %d", tag, len(b), other, len(least))
			}
		}
	}
}

func TestShorterWayIsTaken(t *testing.T) { // a group is packed by what its tracks have in common, where that is less
	for name, share := range map[string]int{"alike": 3, "unlike": 1 << 15} {
		l := luck(8)
		samples := l.samples(of(2, 16), 500, func(l *luck, c, n, _ int) int { return n*7919%30011 - 15000 + c*l.below(share) })
		all, _ := tracks.Split(samples, 2, 16)
		m, s, _ := tracks.Mid(all[0], all[1])
		var w writer
		w.group(all)
		both := [][]byte{written(apart, all...), written(mid, m, s)}
		if name == "alike" {
			slices.Reverse(both)
		}
		if !bytes.Equal(w.Bytes(), both[0]) || len(both[0]) >= len(both[1]) {
			t.Errorf("%s: %d bytes; the ways make %d and %d", name, len(w.Bytes()), len(both[0]), len(both[1]))
		}
	}
}
