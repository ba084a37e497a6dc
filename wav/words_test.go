package wav

import (
	"bytes"
	"encoding/binary"
	"math/big"
	"slices"

	"valise/api"
)

// luck is a row of numbers that look like chance, and are the same each time.
type luck uint64

func (l *luck) below(n int) int {
	*l = *l*6364136223846793005 + 1442695040888963407
	return int(uint64(*l)>>33) % n
}

// bytes are n of any.
func (l *luck) bytes(n int) []byte {
	out := make([]byte, n)
	for i := range out {
		out[i] = byte(l.below(256))
	}
	return out
}

// one is one of them.
func one[T any](l *luck, all ...T) T {
	return all[l.below(len(all))]
}

// chunk is one that tells this size, whatever content it has.
func chunk(name string, size uint32, content ...byte) []byte {
	return append(binary.LittleEndian.AppendUint32([]byte(name), size), content...)
}

// filled is one that tells its size as it is, with a byte behind it if that is odd.
func filled(name string, content ...byte) []byte {
	b := chunk(name, uint32(len(content)), content...)
	return append(b, make([]byte, len(content)%2)...)
}

// format is a format's content.
func format(kind, channels, bits int) []byte {
	b := binary.LittleEndian.AppendUint16(nil, uint16(kind))
	b = binary.LittleEndian.AppendUint16(b, uint16(channels))
	b = append(b, "\xde\xad\xbe\xef\xfe\xed\xfa\xce\x99\x88"...) // counts for nothing
	return binary.LittleEndian.AppendUint16(b, uint16(bits))
}

// plain is a format's chunk.
func plain(channels, bits int) []byte {
	return filled("fmt ", format(1, channels, bits)...)
}

// file is one of these chunks, of which the length that it tells is another one.
func file(parts ...[]byte) []byte {
	return append([]byte("RIFF\xc3\x00\xff\x17WAVE"), bytes.Join(parts, nil)...)
}

// any is a file that may be right, with chunks of all kinds.
func (l *luck) any() []byte {
	var parts [][]byte
	for range l.below(7) {
		parts = append(parts, l.chunk())
	}
	return l.spoilt(file(parts...))
}

// chunk is one that may be right.
func (l *luck) chunk() []byte {
	switch l.below(8) {
	case 0, 1:
		return plain(1+l.below(8), one(l, 8, 16))
	case 2:
		content := format(one(l, 1, 1, 1, 1, 1, 1, 0, 257), one(l, 1, 1, 2, 3, 7, 8, 0, 9), one(l, 8, 16, 8, 16, 8, 16, 0, 24))
		return filled("fmt ", append(content, l.bytes(one(l, 0, 0, 0, 1, 2, 5))...)[:one(l, 16, 16, 16, 16, 15, 14, 0)]...)
	case 3, 4, 5:
		return filled("data", l.bytes(l.below(40))...)
	case 6:
		return filled(one(l, "LIST", "fmt\x00", "Data", "RIFF", "\x00\x00\x00\x00"), l.bytes(l.below(12))...)
	}
	return chunk(one(l, "LIST", "fmt ", "data"), one[uint32](l, 0, 1, 3, 16, 17, 18, 20, 40, 1<<31-1, 1<<31, 1<<32-2, 1<<32-1), l.bytes(l.below(24))...)
}

// spoilt is b, or b cut off, longer, or with a byte turned.
func (l *luck) spoilt(b []byte) []byte {
	switch l.below(8) {
	case 0:
		return b[:l.below(len(b)+1)]
	case 1:
		return append(b, l.bytes(l.below(10))...)
	case 2:
		b[l.below(len(b))] ^= 1 << l.below(8)
	case 3:
		b[l.below(len(b))] = byte(l.below(40))
	}
	return b
}

// said is a chunk as the chapter's words say it: its place, its name, its size.
type said struct {
	at   int64
	name string
	size int64
}

// chunksByWords are all chunks of b.
func chunksByWords(b []byte) []said {
	var all []said
	for at := int64(12); at+8 <= int64(len(b)); {
		c := said{at, string(b[at : at+4]), byWords(b[at+4 : at+8])}
		all = append(all, c)
		at = c.at + 8 + c.size
		if c.size%2 == 1 {
			at++
		}
	}
	return all
}

// byWords is the number that b is, the lowest byte first.
func byWords(b []byte) int64 {
	turned := slices.Clone(b)
	slices.Reverse(turned)
	return new(big.Int).SetBytes(turned).Int64()
}

// parseByWords is what Parse is, by the chapter's words.
func parseByWords(b []byte) (api.Wav, bool) {
	if len(b) < 12 || string(b[:4]) != "RIFF" || string(b[8:12]) != "WAVE" {
		return api.Wav{}, false
	}
	all := chunksByWords(b)
	i := slices.IndexFunc(all, func(c said) bool { return c.name == "fmt " && c.size >= 16 && c.at+24 <= int64(len(b)) })
	if i < 0 {
		return api.Wav{}, false
	}
	told, all := b[all[i].at+8:][:16], all[i+1:]
	kind, channels, bits := byWords(told[:2]), byWords(told[2:4]), byWords(told[14:16])
	i = slices.IndexFunc(all, func(c said) bool { return c.name == "data" })
	if i < 0 || kind != 1 || channels < 1 || channels > 8 || bits != 8 && bits != 16 {
		return api.Wav{}, false
	}
	content := b[all[i].at+8:]
	if all[i].size < int64(len(content)) {
		content = content[:all[i].size]
	}
	frames := 0
	for range slices.Chunk(content, int(channels*bits/8)) {
		frames++
	}
	if len(content)%int(channels*bits/8) != 0 {
		frames--
	}
	if frames < 1 {
		return api.Wav{}, false
	}
	from := int(all[i].at + 8)
	return api.Wav{Channels: int(channels), Bits: int(bits), From: from, To: from + frames*int(channels*bits/8)}, true
}

// makeByWords is what Make is, by the chapter's words.
func makeByWords(w api.Wav, samples []byte) []byte {
	if !slices.Contains([]int{1, 2, 3, 4, 5, 6, 7, 8}, w.Channels) || !slices.Contains([]int{8, 16}, w.Bits) {
		return nil
	}
	frame := w.Channels
	if w.Bits == 16 {
		frame *= 2
	}
	var b bytes.Buffer
	for _, part := range []any{
		[]byte("RIFF"), uint32(36 + len(samples)), []byte("WAVE"),
		[]byte("fmt "), uint32(16), uint16(1), uint16(w.Channels), uint32(8000), uint32(8000 * frame), uint16(frame), uint16(w.Bits),
		[]byte("data"), uint32(len(samples)), samples,
	} {
		if err := binary.Write(&b, binary.LittleEndian, part); err != nil {
			panic(err)
		}
	}
	return b.Bytes()
}
