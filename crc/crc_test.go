package crc

import (
	"bytes"
	"hash/crc32"
	"math"
	"strings"
	"sync"
	"testing"
)

// chance is a row of numbers that look like chance, and are the same each time.
type chance uint64

func (c *chance) below(n int) int {
	*c = *c*6364136223846793005 + 1442695040888963407
	return int(uint64(*c)>>33) % n
}

// word is any number of 32 bits.
func (c *chance) word() uint32 {
	return uint32(c.below(1<<16))<<16 | uint32(c.below(1<<16))
}

// text is n bytes, the odd ones among them too.
func (c *chance) text(n int) []byte {
	b := make([]byte, n)
	for i := range b {
		b[i] = []byte{0, 1, 0x7f, 0x80, 0xff, byte(c.below(256)), byte(c.below(256)), byte(c.below(256))}[c.below(8)]
	}
	return b
}

// byBits is the sum as the promise's words say it, bit by bit and without a table.
func byBits(b []byte) uint32 {
	rest := uint32(0xFFFFFFFF)
	for _, v := range b {
		for k := range 8 {
			one := (rest^uint32(v)>>k)&1 == 1
			rest >>= 1
			if one {
				rest ^= 0xEDB88320
			}
		}
	}
	return rest ^ 0xFFFFFFFF
}

func TestSum(t *testing.T) { // P3.1, example 1
	for _, c := range []struct {
		b    string
		want uint32
	}{
		{"123456789", 0xcbf43926},
		{"", 0},
		{"\x00", 0xd202ef8d},
		{"\xff", 0xff000000},
		{"a", 0xe8b7be43},
		{"abc", 0x352441c2},
		{"\x00\x00\x00\x00", 0x2144df1c},
		{"\xff\xff\xff\xff", 0xffffffff},
		{strings.Repeat("\x00", 32), 0x190a55ad},
		{strings.Repeat("\xff", 32), 0xff6cab0b},
		{"The quick brown fox jumps over the lazy dog", 0x414fa339},
	} {
		if got := Sum([]byte(c.b)); got != c.want {
			t.Errorf("Sum(%q): %08x; want %08x", c.b, got, c.want)
		}
	}
	if Sum(nil) != 0 || Sum([]byte{}) != 0 {
		t.Errorf("Sum of nothing: %08x, %08x", Sum(nil), Sum([]byte{}))
	}
}

func TestSumOfEachByte(t *testing.T) { // P3.1
	for i := range 256 {
		for _, b := range [][]byte{{byte(i)}, {0, byte(i)}, {byte(i), 0xff}} {
			if got, want := Sum(b), byBits(b); got != want {
				t.Errorf("Sum(%x): %08x; want %08x", b, got, want)
			}
		}
	}
}

func TestSumOfAny(t *testing.T) { // P3.1: against the words of the promise, and another's sum
	c := chance(1)
	for n := range 600 {
		b := c.text(n)
		if got := Sum(b); got != byBits(b) || got != crc32.ChecksumIEEE(b) {
			t.Fatalf("Sum of %d bytes, %x: %08x; want %08x", n, b, got, byBits(b))
		}
	}
	for _, n := range []int{4095, 4096, 65536, 1 << 20, 1<<20 + 1} {
		b := c.text(n)
		if got, want := Sum(b), crc32.ChecksumIEEE(b); got != want {
			t.Errorf("Sum of %d bytes: %08x; want %08x", n, got, want)
		}
	}
}

func TestAddAtEachPlace(t *testing.T) { // P3.1
	c := chance(2)
	for n := range 80 {
		b := c.text(n)
		for k := range n + 1 {
			if got, want := Add(Sum(b[:k]), b[k:]), byBits(b); got != want {
				t.Fatalf("Add of %x and %x: %08x; want %08x", b[:k], b[k:], got, want)
			}
		}
	}
}

func TestAddByteByByte(t *testing.T) { // P3.1
	sum := uint32(0)
	for _, v := range []byte("123456789") {
		sum = Add(sum, []byte{v})
	}
	if sum != 0xcbf43926 {
		t.Errorf("the example, byte by byte: %08x", sum)
	}
}

func TestAddToAnySum(t *testing.T) { // P3.1: each number of 32 bits is the sum of something
	c := chance(3)
	sums := []uint32{0, 1, 0x7fffffff, 0x80000000, math.MaxUint32, 0xEDB88320, 0x2144df1c}
	for range 200 {
		sums = append(sums, c.word())
	}
	for _, sum := range sums {
		if Add(sum, nil) != sum || Add(sum, []byte{}) != sum {
			t.Errorf("nothing behind %08x: %08x, %08x", sum, Add(sum, nil), Add(sum, []byte{}))
		}
		b := c.text(c.below(20))
		if got, want := Add(sum, b), crc32.Update(sum, crc32.IEEETable, b); got != want {
			t.Errorf("Add(%08x, %x): %08x; want %08x", sum, b, got, want)
		}
	}
}

func TestAll(t *testing.T) { // P3.1, R6
	for _, c := range []struct {
		parts []string
		want  uint32
	}{
		{nil, 0},
		{[]string{""}, 0},
		{[]string{"", "", ""}, 0},
		{[]string{"123456789"}, 0xcbf43926},
		{[]string{"1234", "56789"}, 0xcbf43926},
		{[]string{"56789", "1234"}, byBits([]byte("567891234"))},
		{[]string{"", "12", "", "3456789", ""}, 0xcbf43926},
		{[]string{"1", "2", "3", "4", "5", "6", "7", "8", "9"}, 0xcbf43926},
		{[]string{"\x00", "\x00\x00\x00"}, 0x2144df1c},
	} {
		var parts [][]byte
		for _, s := range c.parts {
			parts = append(parts, []byte(s))
		}
		if got := All(parts...); got != c.want {
			t.Errorf("All(%q): %08x; want %08x", c.parts, got, c.want)
		}
	}
	if All() != 0 || All(nil) != 0 || All(nil, nil) != 0 || All([]byte("1234"), nil, []byte("56789"), nil) != 0xcbf43926 {
		t.Error("All of no part, or of some that are nil")
	}
}

func TestAllOfAny(t *testing.T) { // P3.1
	for seed := range 300 {
		c := chance(seed)
		var parts [][]byte
		for range c.below(30) {
			parts = append(parts, c.text(c.below(10)))
		}
		if got, want := All(parts...), byBits(bytes.Join(parts, nil)); got != want {
			t.Fatalf("All(%x): %08x; want %08x", parts, got, want)
		}
	}
}

func TestTable(t *testing.T) { // P3.1
	table := Table()
	for i := range 256 {
		want := uint32(i)
		for range 8 {
			if want%2 == 1 {
				want = want/2 ^ 0xEDB88320
			} else {
				want /= 2
			}
		}
		if table[i] != want || table[i] != crc32.IEEETable[i] {
			t.Errorf("Table at %d: %08x; want %08x", i, table[i], want)
		}
	}
	for i, want := range map[int]uint32{0: 0, 1: 0x77073096, 2: 0xee0e612c, 127: 0xc0ba6cad, 128: 0xedb88320, 254: 0x5a05df1b, 255: 0x2d02ef8d} {
		if table[i] != want {
			t.Errorf("Table at %d: %08x; want %08x", i, table[i], want)
		}
	}
}

func TestTableIsHandedOutNew(t *testing.T) { // R3
	table, first := Table(), Table()
	for i := range table {
		table[i] = 7
	}
	if Table() != first || Sum([]byte("123456789")) != 0xcbf43926 || All([]byte("a")) != 0xe8b7be43 {
		t.Error("who writes into a table changes what is answered")
	}
}

// turned is b with the bits of mask turned from the place at on, the lowest bit of each byte first.
func turned(b []byte, at int, mask uint32) []byte {
	b = bytes.Clone(b)
	for k := range 32 {
		if mask>>k&1 == 1 {
			b[(at+k)/8] ^= 1 << ((at + k) % 8)
		}
	}
	return b
}

func TestTurnedBitsAreTold(t *testing.T) { // what follows
	c := chance(4)
	for _, b := range [][]byte{c.text(4), c.text(5), c.text(40), make([]byte, 12), bytes.Repeat([]byte{0xff}, 12)} {
		sum := Sum(b)
		masks := []uint32{math.MaxUint32, 0xEDB88320, 0x80000001, 0xff, 0xffff, 0xff000000}
		for i := range 32 {
			for k := range 32 {
				masks = append(masks, 1<<i|1<<k) // one bit, or two
			}
		}
		for range 1000 {
			masks = append(masks, c.word()|1)
		}
		for at := range 8*len(b) - 31 {
			for _, mask := range masks {
				if Sum(turned(b, at, mask)) == sum {
					t.Fatalf("%x with %08x turned at %d has the same sum", b, mask, at)
				}
			}
		}
	}
}

func TestTurnedBitsAreToldOnlyWithin32(t *testing.T) { // what follows: 33 bits, the polynomial itself, are not told
	b := turned(make([]byte, 8), 1, 0xEDB88320) // the polynomial has 33: its highest, reflected, stands ahead of the others
	b[0] ^= 1
	if Sum(b) != Sum(make([]byte, 8)) {
		t.Errorf("%x: %08x", b, Sum(b))
	}
}

func TestHandedInStays(t *testing.T) { // R3
	room := []byte("ab123456789cd")
	b := room[2:11]
	parts := [][]byte{b[:4], nil, b[4:], []byte("behind the end")}
	for range 3 {
		if Sum(b) != 0xcbf43926 || Add(0, b) != 0xcbf43926 || All(parts[:3]...) != 0xcbf43926 {
			t.Error("asked once more it is another sum")
		}
	}
	if string(room) != "ab123456789cd" || string(parts[0]) != "1234" || parts[1] != nil || string(parts[2]) != "56789" || string(parts[3]) != "behind the end" {
		t.Errorf("what was handed in is %q, %q", room, parts)
	}
	copy(b, "xxxxxxxxx")
	if Sum([]byte("123456789")) != 0xcbf43926 || Sum(b) != byBits([]byte("xxxxxxxxx")) {
		t.Error("a sum hangs on bytes that were handed in before")
	}
}

func TestSumsSideBySide(t *testing.T) { // R2
	var all sync.WaitGroup
	for seed := range 8 {
		all.Go(func() {
			c := chance(seed)
			for range 100 {
				b := c.text(50)
				if want := byBits(b); Sum(b) != want || Add(Sum(b[:9]), b[9:]) != want || All(b[:30], b[30:]) != want {
					t.Errorf("Sum(%x) hangs on others", b)
				}
			}
		})
	}
	all.Wait()
}
