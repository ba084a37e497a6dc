package image

import (
	"bytes"
	"encoding/binary"
	"fmt"

	"valise/filter"
	"valise/num"
)

// luck is a row of numbers that look like chance, and are the same each time.
type luck uint64

func (l *luck) below(n int) int {
	*l = *l*6364136223846793005 + 1442695040888963407
	return int(uint64(*l)>>33) % n
}

// bytes are n of any.
func (l *luck) bytes(n int) []byte {
	out := make([]byte, n)
	for i := range out {
		out[i] = byte(l.below(256))
	}
	return out
}

// one is one of them.
func one[T any](l *luck, all ...T) T {
	return all[l.below(len(all))]
}

// shape is how many pixels a row has, how many rows there are, and how many planes.
type shape struct{ width, height, planes int }

func (s shape) String() string {
	return fmt.Sprintf("%d x %d x %d", s.width, s.height, s.planes)
}

// fill is how many bytes a row of a BMP file has behind its pixels.
func (s shape) fill() int {
	return (4 - s.width*s.planes%4) % 4
}

// shade is a rule by which a pixel's plane comes about.
type shade func(l *luck, x, y, plane int) int

// shades are some.
func shades() map[string]shade {
	return map[string]shade{
		"none":     func(*luck, int, int, int) int { return 0 },
		"the same": func(_ *luck, _, _, p int) int { return 77 * (p + 1) },
		"across":   func(_ *luck, x, _, p int) int { return 3*x + 40*p },
		"down":     func(_ *luck, _, y, p int) int { return 255 - 5*y - p },
		"slanted":  func(_ *luck, x, y, _ int) int { return 7*x + 2*y },
		"grey":     func(l *luck, x, y, _ int) int { return x*y/4 + x%3 },
		"soft":     func(l *luck, x, y, p int) int { return 2*x + 3*y + 50*p + l.below(4) },
		"checks":   func(_ *luck, x, y, p int) int { return (x/2 + y/2 + p) % 2 * 255 },
		"drawn":    func(l *luck, _, _, p int) int { return []int{0, 17, 255}[l.below(30)/14] },
		"noise":    func(l *luck, _, _, _ int) int { return l.below(256) },
	}
}

// pixels are those of an image of that shade.
func (l *luck) pixels(s shape, shade shade) []byte {
	out := make([]byte, 0, s.width*s.height*s.planes)
	for y := range s.height {
		for x := range s.width {
			for p := range s.planes {
				out = append(out, byte(shade(l, x, y, p)))
			}
		}
	}
	return out
}

// bmp is a BMP file of these pixels, which begin at from; behind each row stands as much of fill as there is to be.
func bmp(s shape, from int, fill string, pixels []byte) []byte {
	b := binary.LittleEndian.AppendUint32([]byte("BM\xc3\x00\xff\x17\xde\xad\xbe\xef"), uint32(from))
	for _, v := range []int{40, s.width, s.height, 1 | 8*s.planes<<16, 0, 0, -1, 2835, 256, 99} {
		b = binary.LittleEndian.AppendUint32(b, uint32(v))
	}
	b = append(b, make([]byte, from-len(b))...)
	row := s.width * s.planes
	for y := range s.height {
		b = append(b, pixels[y*row:(y+1)*row]...)
		b = append(b, fill[:s.fill()]...)
	}
	return b
}

// pnm is a PNM file of these pixels.
func pnm(s shape, pixels []byte) []byte {
	return append(fmt.Appendf(nil, "P%d\n%d %d\n255\n", 5+s.planes/3, s.width, s.height), pixels...)
}

// with is b, with these four bytes at that place.
func with(b []byte, at int, v uint32) []byte {
	b = bytes.Clone(b)
	binary.LittleEndian.PutUint32(b[at:], v)
	return b
}

// odd are files of these pixels that say other things of themselves than they need, or that are not so.
func odd(s shape, pixels []byte) map[string][]byte {
	made, plain := bmp(s, 54, "\x00\x00\x00", pixels), pnm(s, pixels)
	head := func(form string) []byte {
		return append(fmt.Appendf(nil, form, 5+s.planes/3, s.width, s.height), pixels...)
	}
	return map[string][]byte{
		"a BMP file":           made,
		"a size of its own":    with(made, 2, uint32(len(made))),
		"from above":           with(made, 22, uint32(-s.height)),
		"other fill":           bmp(s, 54, "ab\xff", pixels),
		"a longer head":        with(bmp(s, 54+84, "\x00\x00\x00", pixels), 14, 124),
		"a head past its end":  with(made, 14, 1<<32-1),
		"colours":              bmp(s, 54+1024, "\x00\x00\x00", pixels),
		"many colours":         with(bmp(s, 54+5, "\x00\x00\x00", pixels), 46, 1<<31),
		"a byte behind":        append(bytes.Clone(made), 1),
		"fill behind":          append(bytes.Clone(made), make([]byte, 9)...),
		"many bytes behind":    append(bytes.Clone(made), bytes.Repeat([]byte("much "), 100)...),
		"a whole file behind":  append(bytes.Clone(made), made...),
		"another kind behind":  append(bytes.Clone(made), plain...),
		"a PNM file":           plain,
		"a lesser value":       head("P%d %d %d 1 "),
		"a value with zeros":   head("P%d %05d %05d 00255\r"),
		"remarks":              head("P%d # 9 9 9 \n%d#\n\t%d # \x00\xff\n254\n"),
		"blanks":               head("P%d \t\r\n%d\r\r\r%d\n \n7\t"),
		"a remark in pixels":   append(pnm(s, pixels), "# P5 1 1 255 x\n"...),
		"two PNM files":        append(pnm(s, pixels), plain...),
		"a BMP file behind it": append(pnm(s, pixels), made...),
	}
}

// laid is what a file would be packed to, if all of this were so.
func laid(size uint64, head, tail []byte, rows ...[]byte) []byte {
	var w num.Writer
	w.Num(size)
	w.Text(head)
	w.Text(tail)
	w.Raw(rows...)
	return w.Bytes()
}

// filtered is what is left of these pixels, if their rows are filtered by these kinds; of three planes as they are turned, one behind the other.
func filtered(s shape, pixels []byte, kinds ...byte) []byte {
	row, turned := s.width*s.planes, bytes.Clone(pixels)
	for i := 0; s.planes == 3 && i < len(turned); i += 3 {
		turned[i] -= turned[i+1]
		turned[i+2] -= turned[i+1]
	}
	var left, up []byte
	for y, kind := range kinds {
		line := turned[y*row : (y+1)*row]
		left = append(left, filter.Row(int(kind), line, up, s.planes)...)
		up = line
	}
	var out []byte
	for p := range s.planes {
		for i := p; i < len(left); i += s.planes {
			out = append(out, left[i])
		}
	}
	return out
}
