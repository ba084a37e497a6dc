package tracks

import (
	"bytes"
	"slices"
	"testing"

	"valise/api"
)

// join fails unless tracks are joined as the chapter's words say, and split again.
func join(t *testing.T, bits int, tracks ...[]int32) {
	t.Helper()
	got, err := Join(bits, tracks...)
	want, fault := joinByWords(bits, tracks...)
	if err != fault || !bytes.Equal(got, want) || err != api.OK && got != nil {
		t.Fatalf("Join of %d, %v: %.100x, error %d; want %.100x, error %d", bits, tracks, got, err, want, fault)
	}
	if err != api.OK {
		return
	}
	if again, err := Split(got, len(tracks), bits); err != api.OK || !same(again, tracks) {
		t.Fatalf("%d, %v: split again: %v, error %d", bits, tracks, again, err)
	}
}

// refuse fails unless that is the error, and nothing is told beside it.
func refuse(t *testing.T, want api.Errno, bits int, tracks ...[]int32) {
	t.Helper()
	if got, err := Join(bits, tracks...); err != want || got != nil {
		t.Errorf("%d bits, %v: %x, error %d; want error %d", bits, tracks, got, err, want)
	}
}

func TestJoinOfAny(t *testing.T) { // P14.1
	for seed := range 20000 {
		l := luck(seed)
		bits := one(&l, 8, 16)
		join(t, bits, l.tracks(bits)...)
	}
}

func TestJoinOfEachNumber(t *testing.T) { // P14.1: -128 to 127, and -32,768 to 32,767
	for v := int32(-1 << 17); v <= 1<<17; v++ {
		for bits, most := range map[int]int32{8: 127, 16: 32767} {
			_, err := Join(bits, []int32{v})
			if ok := v >= -most-1 && v <= most; ok != (err == api.OK) || !ok && err != api.ErrForm {
				t.Fatalf("%d bits, %d: error %d", bits, v, err)
			}
		}
	}
	for _, v := range ends() {
		join(t, 8, []int32{v})
		join(t, 16, []int32{v})
	}
}

func TestJoinOfOneThatIsNone(t *testing.T) { // P14.1: in whatever track it is, and at whatever place
	for _, bits := range []int{8, 16} {
		for channels := 1; channels <= 8; channels++ {
			for i := range channels {
				for j := range 5 {
					l := luck(i)
					all := make([][]int32, channels)
					for k := range all {
						all[k] = l.samples(5, bits)
					}
					join(t, bits, all...)
					for _, v := range []int32{1 << (bits - 1), -1<<(bits-1) - 1, 1 << bits, 1 << 30, 1<<31 - 1, -1 << 31} {
						all[i][j] = v
						refuse(t, api.ErrForm, bits, all...)
					}
				}
			}
		}
	}
}

func TestJoinOfLengths(t *testing.T) { // P14.1: of one length, whichever is another one
	for channels := 2; channels <= 8; channels++ {
		for i := range channels {
			for _, n := range []int{0, 1, 2, 4, 5, 100} {
				all := make([][]int32, channels)
				for k := range all {
					all[k] = make([]int32, 3)
				}
				join(t, 8, all...)
				all[i] = make([]int32, n)
				refuse(t, api.ErrForm, 8, all...)
				refuse(t, api.ErrForm, 16, all...)
			}
		}
	}
	refuse(t, api.ErrForm, 8, []int32{1}, nil)
	refuse(t, api.ErrForm, 8, nil, []int32{1})
	refuse(t, api.ErrForm, 8, []int32{1, 2}, []int32{3, 400})
	refuse(t, api.ErrForm, 8, []int32{1, 2}, []int32{3}, []int32{4, 5, 6})
}

func TestJoinOfNothing(t *testing.T) { // P14.1, R3, R6: no samples are some, no tracks are none
	for _, bits := range []int{8, 16} {
		refuse(t, api.ErrArg, bits)
		refuse(t, api.ErrArg, bits, [][]int32{}...)
		for channels := 1; channels <= 8; channels++ {
			all := make([][]int32, channels)
			for i := range all {
				if b, err := Join(bits, all...); err != api.OK || len(b) != 0 {
					t.Errorf("%d bits, %v: %x, error %d", bits, all, b, err)
				}
				all[i] = make([]int32, 0, i) // nil and empty ones, side by side
			}
			join(t, bits, all...)
		}
	}
}

func TestJoinRefuses(t *testing.T) { // P14.1, R4, R5: too many tracks, or no such bits, whatever they are
	for _, channels := range []int{0, 1, 2, 8, 9, 10, 16, 17, 255, 256, 257, 264, 1 << 16, 1<<16 + 1} {
		all := make([][]int32, channels)
		for _, bits := range append(widths(), 8, 16) {
			if may(channels, bits) {
				continue
			}
			refuse(t, api.ErrArg, bits, all...)
			for _, track := range [][]int32{{1}, {-1 << 31}} { // of another length than the others, and no sample
				if channels > 0 {
					refuse(t, api.ErrArg, bits, slices.Replace(slices.Clone(all), channels-1, channels, track)...)
				}
			}
		}
	}
}

func TestJoinOfOneTwice(t *testing.T) { // P14.1: the same list may be more than one track
	l := []int32{-128, 0, 127}
	join(t, 8, l, l, l)
	join(t, 16, l, l, l, l, l, l, l, l)
}

func TestJoinOfMany(t *testing.T) { // P14.1: no length is too great
	l := luck(3)
	for _, channels := range []int{1, 3} {
		all := make([][]int32, channels)
		for i := range all {
			all[i] = l.samples(api.MaxData/2+1, 16)
		}
		b, err := Join(16, all...)
		if again, fault := Split(b, channels, 16); err != api.OK || fault != api.OK || !same(again, all) {
			t.Errorf("%d tracks: errors %d, %d", channels, err, fault)
		}
	}
}
