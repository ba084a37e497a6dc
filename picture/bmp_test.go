package picture

import (
	"bytes"
	"encoding/hex"
	"math"
	"testing"

	"valise/api"
)

func TestBmpOfKnown(t *testing.T) { // P16.1: files that other programs made
	const pixels = "0c0b0a0f0e0d121110000000030201060504090807000000"
	for _, c := range []struct {
		what, s string
		want    api.Picture
	}{
		{"sizes left out", "424d4e0000000000000036000000280000000300000002000000010018000000000000000000000000000000000000000000000000" + "00" + pixels, at(3, 2, 3, 12, 54)},
		{"sizes told", "424d4e000000000000003600000028000000030000000200000001001800000000001800000000000000000000000000000000000000" + pixels, at(3, 2, 3, 12, 54)},
		{"a long head", "424da2000000000000008a0000007c0000000300000002000000010018000000000018000000000000000000000000000000000000000000ff0000ff0000ff000000000000ff42475273000000000000000000000000000000000000000000000000000000000000000000000000000000000000000000000000040000000000000000000000000000" + "00" + pixels, at(3, 2, 3, 12, 138)},
		{"a short head", "424d32000000000000001a0000000c00000003000200010018" + "00" + pixels + "0000000000000000", api.Picture{}},
		{"four bits", "424d7e000000000000007600000028000000050000000200000001000400000000000000000000000000000000000000000000000000000000000101010080808000818181" + "00" + pixels + pixels + pixels, api.Picture{}},
	} {
		b, err := hex.DecodeString(c.s)
		if err != nil {
			t.Fatal(err)
		}
		if c.want == (api.Picture{}) {
			lacking(t, c.what, b)
		} else {
			found(t, c.what, b, c.want)
		}
	}
}

func TestBmpOfAllWidths(t *testing.T) { // P16.1: a stride is a multiple of 4
	for width := 1; width <= 40; width++ {
		for height := 1; height <= 5; height++ {
			for bits, planes := range map[uint16]int{8: 1, 24: 3} {
				stride := width * planes
				for stride%4 > 0 {
					stride++
				}
				for _, h := range []int{height, -height} {
					w := plain(uint32(width), int32(h), bits)
					need := 54 + stride*height
					found(t, "as long as it has to be", w.file(need), at(width, height, planes, stride, 54))
					found(t, "longer", w.file(need+width), at(width, height, planes, stride, 54))
					lacking(t, "a byte less", w.file(need-1))
					lacking(t, "a row less", w.file(need-stride))
				}
			}
		}
	}
}

func TestBmpSides(t *testing.T) { // P16.1: from 1 to 32,768
	for _, n := range []int{1, 2, 255, 256, 32767, 32768} {
		found(t, "a width", plain(uint32(n), 1, 8).file(54+n+3), at(n, 1, 1, (n+3)/4*4, 54))
		found(t, "a width of three planes", plain(uint32(n), 1, 24).file(54+3*n+3), at(n, 1, 3, (3*n+3)/4*4, 54))
		found(t, "a height", plain(1, int32(n), 8).file(54+4*n), at(1, n, 1, 4, 54))
		found(t, "a height below 0", plain(4, int32(-n), 8).file(54+4*n), at(4, n, 1, 4, 54))
	}
	for _, n := range []uint32{0, 32769, 65535, 65536, 65537, 1<<24 + 1, 1<<31 - 1, 1 << 31, 1<<31 + 1, 1<<32 - 32768, 1<<32 - 4, 1<<32 - 1} {
		for _, bits := range []uint16{8, 24} {
			lacking(t, "a bad width", plain(n, 1, bits).file(1<<18))
		}
	}
	for _, n := range []int32{0, 32769, 65535, 65536, 65537, math.MaxInt32 - 1, math.MaxInt32, -32769, -65536, -65537, math.MinInt32 + 1, math.MinInt32} {
		for _, bits := range []uint16{8, 24} {
			lacking(t, "a bad height", plain(1, n, bits).file(1<<18))
		}
	}
	for _, h := range []int32{1 << 15, -1 << 15} {
		lacking(t, "both as great as they may be", plain(1<<15, h, 8).file(1<<18))
		lacking(t, "of three planes", plain(1<<15, h, 24).file(1<<18))
	}
	lacking(t, "what is nothing, if it goes round", plain(1<<31, 32, 8).file(1000))
	lacking(t, "also", plain(1<<30, 4, 24).file(1000))
}

func TestBmpFrom(t *testing.T) { // P16.1: from 54 on, and within
	for from := range uint32(90) {
		w := plain(4, 2, 8)
		w.From = from
		if from < 54 || from > 82 {
			lacking(t, "a bad place", w.file(90))
		} else {
			found(t, "a place", w.file(90), at(4, 2, 1, 4, int(from)))
		}
	}
	for _, from := range []uint32{1 << 16, 1 << 24, 1<<31 - 1, 1 << 31, 1<<32 - 54, 1<<32 - 8, 1<<32 - 1} {
		w := plain(4, 2, 8)
		w.From = from
		lacking(t, "a place far off", w.file(90))
	}
	w := plain(4, 2, 8)
	w.From = 1<<16 + 1
	found(t, "a place of three bytes", w.file(1<<17), at(4, 2, 1, 4, 1<<16+1))
}

func TestBmpFields(t *testing.T) { // P16.1: what else is told
	good := plain(4, 2, 8)
	for _, info := range []uint32{40, 41, 64, 108, 124, 255, 256, 1 << 16, 1<<31 - 1, 1 << 31, 1<<32 - 1} {
		w := good
		w.Info = info
		found(t, "a second part", w.file(62), at(4, 2, 1, 4, 54))
	}
	for info := range uint32(40) {
		w := good
		w.Info = info
		lacking(t, "a short second part", w.file(62))
	}
	for n := range 1 << 16 {
		w := good
		w.Layers = uint16(n)
		if _, ok := Bmp(w.file(62)); ok != (n == 1) {
			t.Fatalf("%d layers: %v", n, ok)
		}
		w = good
		w.Bits = uint16(n)
		if got, ok := Bmp(w.file(100)); ok != (n == 8 || n == 24) || ok && got.Planes != n/8 {
			t.Fatalf("%d bits: %+v, %v", n, got, ok)
		}
	}
	for bit := range 32 {
		w := good
		w.Packing = 1 << bit
		lacking(t, "packed", w.file(62))
	}
}

func TestBmpBytesThatCount(t *testing.T) { // P16.1: each other byte of the head, whatever it is
	b := plain(4, 2, 8).file(62)
	for i := range 54 {
		counts := i < 2 || i >= 10 && i < 34
		for v := range 256 {
			other := bytes.Clone(b)
			other[i] = byte(v)
			got, ok := Bmp(other)
			if !counts && (!ok || got != at(4, 2, 1, 4, 54)) {
				t.Fatalf("the byte %d is %02x: %+v, %v", i, v, got, ok)
			}
			if hold(t, other); t.Failed() {
				t.Fatalf("the byte %d is %02x", i, v)
			}
		}
	}
	for i, v := range map[int]byte{0: 'b', 1: 'm'} {
		other := bytes.Clone(b)
		other[i] = v
		lacking(t, "another kind", other)
	}
	lacking(t, "something ahead", append([]byte{0}, b...))
}

func TestBmpBeginnings(t *testing.T) { // P16.1: 54 bytes at least, and all pixels
	b := plain(5, -3, 24).file(110)
	for n := range b {
		if n < 102 {
			lacking(t, "a beginning", b[:n])
		} else {
			found(t, "a beginning", b[:n], at(5, 3, 3, 16, 54))
		}
	}
	w := plain(1, 1, 8)
	w.From = 20
	lacking(t, "pixels in a head that is cut off", w.file(53))
}
