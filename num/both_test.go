package num

import (
	"bytes"
	"math/big"
	"testing"

	"valise/api"
)

// chance is a row of numbers that look like chance, and are the same each time.
type chance uint64

func (c *chance) below(n int) int {
	*c = *c*6364136223846793005 + 1442695040888963407
	return int(uint64(*c)>>33) % n
}

// number is one of any length, short ones as likely as long ones.
func (c *chance) number() uint64 {
	v := uint64(c.below(1<<31))<<33 ^ uint64(c.below(1<<31))<<16 ^ uint64(c.below(1<<16))
	return v >> c.below(64)
}

// text is some bytes, the odd ones among them too.
func (c *chance) text(most int) []byte {
	b := make([]byte, c.below(most))
	for i := range b {
		b[i] = []byte{0, 1, 2, 0x7f, 0x80, 0xff, 0xff, byte(c.below(256))}[c.below(8)]
	}
	return b
}

// TestWrittenIsRead: what is written is read, and nothing is left.
func TestWrittenIsRead(t *testing.T) {
	for seed := range 400 {
		c := chance(seed)
		var w Writer
		var all []func(r *Reader) bool
		for range c.below(50) {
			all = append(all, writeOne(&c, &w))
		}
		r := New(w.Bytes())
		for i, same := range all {
			if !same(r) {
				t.Fatalf("seed %d: the thing %d is another one, Err %d, %d left", seed, i, r.Err(), r.Left())
			}
		}
		state(t, "behind all", r, 0, api.OK, api.OK)
	}
}

// writeOne writes a thing, and is what tells whether a reader has it next.
func writeOne(c *chance, w *Writer) func(r *Reader) bool {
	v, n, b := c.number(), c.below(11)-1, c.text(300)
	low := v
	if n < 8 {
		low = v & (1<<(8*max(n, 0)) - 1)
	}
	switch c.below(6) {
	case 0:
		w.Num(v)
		return func(r *Reader) bool { return r.Num() == v }
	case 1:
		s := int64(v)
		w.Zig(s)
		return func(r *Reader) bool { return r.Zig() == s }
	case 2:
		w.Text(b)
		return func(r *Reader) bool { return bytes.Equal(r.Text(len(b)+n+1), b) }
	case 3:
		w.Little(v, n)
		return func(r *Reader) bool { return r.Little(n) == low }
	case 4:
		w.Big(v, n)
		return func(r *Reader) bool { return r.Big(n) == low }
	}
	w.Raw(b, nil, b)
	return func(r *Reader) bool { return bytes.Equal(r.Raw(2*len(b)), append(b, b...)) }
}

// TestReadIsWritten: what is read as a Num, a Zig or a Text, written again, is the same bytes.
func TestReadIsWritten(t *testing.T) {
	read := 0
	for seed := range 20000 {
		c := chance(seed)
		b := c.text(14)
		for kind := range 3 {
			var w Writer
			r := New(b)
			switch kind {
			case 0:
				w.Num(r.Num())
			case 1:
				w.Zig(r.Zig())
			case 2:
				w.Text(r.Text(99))
			}
			if r.Err() != api.OK {
				continue
			}
			read++
			if got := b[:len(b)-r.Left()]; !bytes.Equal(w.Bytes(), got) {
				t.Fatalf("seed %d, kind %d: %x was read, %x written", seed, kind, got, w.Bytes())
			}
		}
	}
	if read < 10000 {
		t.Errorf("only %d were read", read)
	}
}

// plain reads as P2.2 and P2.3 say it, word by word, with numbers that have no bound.
type plain struct {
	rest  []byte
	fault api.Errno
}

// form is the number that b begins with and its bytes, or the fault.
func form(b []byte) (*big.Int, int, api.Errno) {
	n := 0
	for n < len(b) && n < 10 && b[n] >= 0x80 {
		n++
	}
	switch {
	case n == len(b) && n < 10:
		return nil, 0, api.ErrShort
	case n == 10 || n == 9 && b[9] > 1 || n > 0 && b[n] == 0:
		return nil, 0, api.ErrForm
	}
	v := new(big.Int)
	for i := n; i >= 0; i-- {
		v.Add(v.Mul(v, big.NewInt(128)), big.NewInt(int64(b[i]%128)))
	}
	return v, n + 1, api.OK
}

func (p *plain) num() *big.Int {
	if p.fault != api.OK {
		return new(big.Int)
	}
	v, n, fault := form(p.rest)
	if fault != api.OK {
		p.fault = fault
		return new(big.Int)
	}
	p.rest = p.rest[n:]
	return v
}

func (p *plain) zig() *big.Int {
	v := p.num()
	if v.Bit(0) == 0 {
		return v.Rsh(v, 1)
	}
	return v.Neg(v.Rsh(v.Add(v, big.NewInt(1)), 1))
}

func (p *plain) raw(n int) []byte {
	n = max(n, 0)
	if p.fault == api.OK && n > len(p.rest) {
		p.fault = api.ErrShort
	}
	if p.fault != api.OK {
		return nil
	}
	b := p.rest[:n]
	p.rest = p.rest[n:]
	return b
}

func (p *plain) text(most int) []byte {
	from := p.rest
	n := p.num()
	if n.Cmp(big.NewInt(int64(max(most, 0)))) > 0 {
		p.fault = api.ErrForm
	}
	b := []byte(nil)
	if p.fault == api.OK {
		b = p.raw(int(n.Int64()))
	}
	if p.fault != api.OK {
		p.rest = from
	}
	return b
}

func (p *plain) end() api.Errno {
	if p.fault == api.OK && len(p.rest) > 0 {
		return api.ErrForm
	}
	return p.fault
}

// TestReaderPlain holds the reader against the plain one, on bytes and calls that look like chance.
func TestReaderPlain(t *testing.T) {
	for seed := range 20000 {
		c := chance(seed)
		b := c.text(40)
		given := bytes.Clone(b)
		r, p := New(b), &plain{rest: bytes.Clone(b)}
		for range 12 {
			if !bothRead(&c, r, p) {
				t.Fatalf("seed %d: of %x, %d left: they differ", seed, b, r.Left())
			}
			state(t, "plain", r, len(p.rest), p.fault, p.end())
		}
		if !bytes.Equal(b, given) {
			t.Fatalf("seed %d: what was handed in was changed", seed)
		}
	}
}

// bothRead has both readers read one thing, and tells whether it is the same.
func bothRead(c *chance, r *Reader, p *plain) bool {
	n := c.below(14) - 2
	whole := min(n, 8)
	switch c.below(6) {
	case 0:
		return new(big.Int).SetUint64(r.Num()).Cmp(p.num()) == 0
	case 1:
		return big.NewInt(r.Zig()).Cmp(p.zig()) == 0
	case 2:
		return bytes.Equal(r.Text(n), p.text(n))
	case 3:
		return new(big.Int).SetUint64(r.Big(n)).Cmp(new(big.Int).SetBytes(p.raw(whole))) == 0
	case 4:
		b := []byte(turned(string(p.raw(whole))))
		return new(big.Int).SetUint64(r.Little(n)).Cmp(new(big.Int).SetBytes(b)) == 0
	}
	return bytes.Equal(r.Raw(n), p.raw(n))
}
