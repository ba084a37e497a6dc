package picture

import (
	"valise/api"
	"valise/num"
)

const (
	mostDigits = 5
	mostValue  = 255 // of which a plane of a pixel is one byte
)

// pnm reads the head of a PNM file. As a number ends only where something else begins, the byte behind what it has gone through is read already: next, which is 0 at the file's end, and 0 has no place in a head but in remarks.
type pnm struct {
	*num.Reader
	next byte
}

// newPnm is one at the beginning of b.
func newPnm(b []byte) *pnm {
	return &pnm{Reader: num.New(b)}
}

// head is what the file tells; the zero one, if it is no PNM file, or its pixels are no bytes as they are.
func (p *pnm) head() head {
	size := p.Left()
	planes := p.planes()
	p.step()
	width := p.number()
	height := p.number()
	greatest := p.number()
	if planes == 0 || greatest < 1 || greatest > mostValue || !blank(p.next) {
		return head{}
	}
	return head{width, height, planes, width * planes, uint64(size - p.Left())}
}

// planes is how many bytes a pixel has, by what the file begins with; 0, if it is none that is read here.
func (p *pnm) planes() uint64 {
	switch string(p.Raw(2)) {
	case "P5":
		return 1
	case "P6":
		return 3
	}
	return 0
}

// step goes one byte on.
func (p *pnm) step() {
	p.next = byte(p.Little(1))
}

// number is the one behind white; 0, which may be nowhere, if there is none. What a longer one has behind its first digits is left, where only white may be.
func (p *pnm) number() uint64 {
	if !p.white() {
		return 0
	}
	v := uint64(0)
	for range mostDigits {
		if !digit(p.next) {
			break
		}
		v = 10*v + uint64(p.next-'0')
		p.step()
	}
	return v
}

// white goes through white; false, if there is none.
func (p *pnm) white() bool {
	there := false
	for {
		p.remark()
		if !blank(p.next) {
			return there
		}
		there = true
		p.step()
	}
}

// remark goes to the end of a remark, if one begins here: the 0a that ends it is a blank, too.
func (p *pnm) remark() {
	if p.next != '#' {
		return
	}
	for p.next != '\n' && p.Err() == api.OK {
		p.step()
	}
}

// blank tells whether c alone is white.
func blank(c byte) bool {
	return c == ' ' || c == '\t' || c == '\n' || c == '\r'
}

// digit tells whether c is part of a number.
func digit(c byte) bool {
	return c >= '0' && c <= '9'
}
