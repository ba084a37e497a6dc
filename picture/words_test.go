package picture

import (
	"bytes"
	"encoding/binary"
	"math/big"
	"regexp"
	"strconv"
	"strings"

	"valise/api"
)

// luck is a row of numbers that look like chance, and are the same each time.
type luck uint64

func (l *luck) below(n int) int {
	*l = *l*6364136223846793005 + 1442695040888963407
	return int(uint64(*l)>>33) % n
}

// one is one of them.
func one[T any](l *luck, all ...T) T {
	return all[l.below(len(all))]
}

// rarely is usual, but now and then one of the others.
func rarely[T any](l *luck, usual T, others ...T) T {
	if l.below(20) > 0 {
		return usual
	}
	return one(l, others...)
}

// told is what stands at the beginning of a BMP file.
type told struct {
	Kind             [2]byte
	Size, Free       uint32
	From, Info       uint32
	Width            uint32
	Height           int32
	Layers, Bits     uint16
	Packing          uint32
	Bytes            uint32
	Across, Down     int32
	Colours, Weighty uint32
}

// plain is what a right file tells; what counts for nothing is something.
func plain(width uint32, height int32, bits uint16) told {
	return told{
		Kind: [2]byte{'B', 'M'}, Size: 0xfedcba98, Free: 0xcafebabe,
		From: 54, Info: 40, Width: width, Height: height, Layers: 1, Bits: bits,
		Bytes: 0xffffffff, Across: -1, Down: -1 << 31, Colours: 0x99999999, Weighty: 0x80000000,
	}
}

// file is one that tells that, and has so many bytes.
func (w told) file(size int) []byte {
	b, err := binary.Append(nil, binary.LittleEndian, w)
	if err != nil {
		panic(err)
	}
	return append(b, make([]byte, max(size-len(b), 0))...)[:size]
}

// bmp is a BMP file that may be right.
func (l *luck) bmp() []byte {
	w := plain(uint32(1+l.below(9)), int32(1+l.below(9)), one[uint16](l, 8, 24))
	w.Kind = rarely(l, w.Kind, [2]byte{'b', 'm'}, [2]byte{'M', 'B'}, [2]byte{'B', 'A'}, [2]byte{'P', '5'})
	w.From = rarely(l, w.From+uint32(l.below(40)), 0, 1, 53, 310, 1<<31-1, 1<<31, 1<<32-54, 1<<32-1)
	w.Info = rarely(l, w.Info, 0, 12, 39, 41, 64, 108, 124, 1<<31, 1<<32-1)
	w.Width = rarely(l, w.Width, 0, 32767, 32768, 32769, 1<<16+1, 1<<31, 1<<31+1, 1<<32-4, 1<<32-1)
	w.Height = rarely(l, w.Height, 0, 32767, 32768, 32769, 1<<16+1, 1<<31-1, -32767, -32768, -32769, -1<<31, -1<<31+1)
	w.Height *= one[int32](l, 1, -1)
	w.Layers = rarely(l, w.Layers, 0, 2, 257, 1<<15)
	w.Bits = rarely(l, w.Bits, 0, 1, 4, 7, 9, 16, 23, 25, 32, 8+1<<8, 24+1<<8)
	w.Packing = rarely(l, w.Packing, 1, 3, 1<<8, 1<<16, 1<<24)
	return w.file(rarely(l, l.near(byWords(w)), l.below(55)))
}

// wide is a picture of any numbers, however few bits an int has.
type wide struct{ width, height, planes, stride, from int64 }

// near is a number near to what a picture needs, as far as that is not much.
func (l *luck) near(p wide) int {
	need := p.from + min(p.stride, 4096)*min(p.height, 4096)
	return int(min(need, 4096)) + rarely(l, l.below(4), -1, -2)
}

// byWords is where the pixels are, by the chapter's words, whatever the bounds are.
func byWords(w told) wide {
	p := wide{width: int64(w.Width), height: int64(w.Height), planes: 1, from: int64(w.From)}
	if w.Height < 0 {
		p.height = -p.height
	}
	if w.Bits == 24 {
		p.planes = 3
	}
	p.stride = p.width * p.planes
	for p.stride%4 != 0 {
		p.stride++
	}
	return p
}

// bmpByWords is what Bmp is, by the chapter's words.
func bmpByWords(b []byte) (api.Picture, bool) {
	var w told
	if err := binary.Read(bytes.NewReader(b), binary.LittleEndian, &w); err != nil {
		return api.Picture{}, false
	}
	if string(w.Kind[:]) != "BM" || w.From < 54 || w.Info < 40 || w.Layers != 1 || w.Bits != 24 && w.Bits != 8 || w.Packing != 0 {
		return api.Picture{}, false
	}
	return boundByWords(byWords(w), b)
}

// boundByWords is p, if it may be so in b.
func boundByWords(p wide, b []byte) (api.Picture, bool) {
	need := new(big.Int).Mul(big.NewInt(p.stride), big.NewInt(p.height))
	need.Add(need, big.NewInt(p.from))
	if p.width < 1 || p.width > 32768 || p.height < 1 || p.height > 32768 || need.Cmp(big.NewInt(int64(len(b)))) > 0 {
		return api.Picture{}, false
	}
	return at(int(p.width), int(p.height), int(p.planes), int(p.stride), int(p.from)), true
}

// white are some blanks and remarks; none now and then.
func (l *luck) white() string {
	var s strings.Builder
	for range rarely(l, 1+l.below(3)*l.below(2), 0) {
		s.WriteString(one(l, " ", "\t", "\n", "\r", "\r\n", "#\n", "# 1 2\n", "##\n", "#\x00\xff\r\n", rarely(l, " ", "\v", "\f", "\x00", "\xa0", "#", "#\r")))
	}
	return s.String()
}

// number is v, with zeros ahead of it now and then.
func (l *luck) number(v int) string {
	s := strconv.Itoa(v)
	s = strings.Repeat("0", rarely(l, l.below(6-len(s)), 6-len(s))) + s
	return rarely(l, s, "", "-1", "+1", "1.0", "0x1", "x", "032768", "32767", "32768", "32769", "99999", "100000", "4294967297", "18446744073709551617")
}

// pnm is a PNM file that may be right.
func (l *luck) pnm() []byte {
	kind := one(l, "P5", "P6")
	planes, width, height := map[string]int{"P5": 1, "P6": 3}[kind], 1+l.below(12), 1+l.below(12)
	s := rarely(l, kind, "P", "p5", "P3", "P7", "5P", "P", " P5", "BM") + l.white() + l.number(width) + l.white() + l.number(height) + l.white()
	s += rarely(l, l.number(1+l.below(255)), "0", "00000", "255", "256", "65535") + one(l, " ", "\t", "\n", "\r", rarely(l, " ", "", "#", "#\n", "\v", "\x00", "x"))
	return append([]byte(s), make([]byte, max(width*height*planes+rarely(l, l.below(4), -1, -2), 0))...)
}

// pnmHead is what a PNM file begins with.
var pnmHead = func() *regexp.Regexp {
	const white, number = `(?:[ \t\n\r]|#[^\n]*\n)+`, `([0-9]{1,5})`
	return regexp.MustCompile(`^P([56])` + white + number + white + number + white + number + `[ \t\n\r]`)
}()

// pnmByWords is what Pnm is, by the chapter's words.
func pnmByWords(b []byte) (api.Picture, bool) {
	all := pnmHead.FindSubmatch(b)
	if all == nil {
		return api.Picture{}, false
	}
	var v [4]int64
	for i := range v {
		n, err := strconv.ParseInt(string(all[1+i]), 10, 64)
		if err != nil {
			panic(err)
		}
		v[i] = n
	}
	if v[3] < 1 || v[3] > 255 {
		return api.Picture{}, false
	}
	planes := 2*v[0] - 9
	return boundByWords(wide{v[1], v[2], planes, v[1] * planes, int64(len(all[0]))}, b)
}
