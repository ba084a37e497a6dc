package bits

import (
	"bytes"
	"strings"
	"testing"

	"valise/api"
)

// chance is a row of numbers that look like chance, and are the same each time.
type chance uint64

func (c *chance) below(n int) int {
	*c = *c*6364136223846793005 + 1442695040888963407
	return int(uint64(*c)>>33) % n
}

// TestWrittenIsRead: what is written is read, and nothing but the fill is left.
func TestWrittenIsRead(t *testing.T) {
	type piece struct {
		kind, n int
		v       uint32
	}
	for seed := range 300 {
		c := chance(seed)
		var w Writer
		var all []piece
		for range c.below(60) {
			p := piece{kind: c.below(3), n: c.below(33), v: uint32(c.below(1<<16))<<16 | uint32(c.below(1<<16))}
			switch p.kind {
			case 0:
				w.Bit(p.n % 2)
			case 1:
				w.Bits(p.v, p.n)
			case 2:
				w.Unary(p.n * 9)
			}
			all = append(all, p)
		}
		r := New(w.Bytes())
		for i, p := range all {
			switch p.kind {
			case 0:
				if got := r.Bit(); got != p.n%2 {
					t.Fatalf("seed %d, piece %d: Bit %d", seed, i, got)
				}
			case 1:
				if got, want := r.Bits(p.n), uint32(uint64(p.v)&(1<<p.n-1)); got != want {
					t.Fatalf("seed %d, piece %d: Bits %x; want %x", seed, i, got, want)
				}
			case 2:
				if got := r.Unary(p.n*9 + 1 + p.n%2); got != p.n*9 {
					t.Fatalf("seed %d, piece %d: Unary %d; want %d", seed, i, got, p.n*9)
				}
			}
		}
		state(t, "behind all", r, 8*len(w.Bytes())-w.Len(), api.OK, api.OK)
	}
}

// plain reads a text of noughts and ones as P1.2 and P1.3 say it, word by word.
type plain struct {
	rest  string
	fault api.Errno
}

func (p *plain) bits(n int) uint32 {
	n = min(max(n, 0), 32)
	if p.fault == api.OK && n > len(p.rest) {
		p.fault = api.ErrShort
	}
	if p.fault != api.OK {
		return 0
	}
	v := uint32(0)
	for _, d := range p.rest[:n] {
		v = 2*v + uint32(d-'0')
	}
	p.rest = p.rest[n:]
	return v
}

func (p *plain) unary(most int) int {
	if p.fault != api.OK {
		return 0
	}
	if most <= 0 {
		return 0
	}
	if strings.HasPrefix(p.rest, strings.Repeat("1", most)) {
		p.rest = p.rest[most:]
		return most
	}
	n := strings.IndexByte(p.rest, '0')
	if n < 0 {
		p.fault = api.ErrShort
		return 0
	}
	p.rest = p.rest[n+1:]
	return n
}

func (p *plain) end() api.Errno {
	if p.fault == api.OK && (len(p.rest) >= 8 || strings.Contains(p.rest, "1")) {
		return api.ErrForm
	}
	return p.fault
}

// TestReaderPlain holds the reader against the plain one, on bytes and calls that look like chance.
func TestReaderPlain(t *testing.T) {
	for seed := range 2000 {
		c := chance(seed)
		b := make([]byte, c.below(12))
		for i := range b {
			b[i] = []byte{0, 0xff, byte(c.below(256))}[c.below(3)]
		}
		given := bytes.Clone(b)
		var s strings.Builder
		for i := range 8 * len(b) {
			s.WriteByte('0' + b[i/8]>>(7-i%8)&1)
		}
		r, p := New(b), &plain{rest: s.String()}
		for range 20 {
			n := c.below(40) - 3
			switch c.below(3) {
			case 0:
				if got, want := r.Bit(), int(p.bits(1)); got != want {
					t.Fatalf("seed %d: Bit %d; want %d", seed, got, want)
				}
			case 1:
				if got, want := r.Bits(n), p.bits(n); got != want {
					t.Fatalf("seed %d: Bits(%d) %x; want %x", seed, n, got, want)
				}
			case 2:
				if got, want := r.Unary(n), p.unary(n); got != want {
					t.Fatalf("seed %d: Unary(%d) %d; want %d", seed, n, got, want)
				}
			}
			state(t, "plain", r, len(p.rest), p.fault, p.end())
		}
		if !bytes.Equal(b, given) {
			t.Fatalf("seed %d: what was handed in was changed", seed)
		}
	}
}
