package audio

import (
	"bytes"
	"encoding/binary"
	"math"

	"valise/api"
	"valise/wav"
)

// luck is a row of numbers that look like chance, and are the same each time.
type luck uint64

func (l *luck) below(n int) int {
	*l = *l*6364136223846793005 + 1442695040888963407
	return int(uint64(*l)>>33) % n
}

// bytes are n of any.
func (l *luck) bytes(n int) []byte {
	out := make([]byte, n)
	for i := range out {
		out[i] = byte(l.below(256))
	}
	return out
}

// one is one of them.
func one[T any](l *luck, all ...T) T {
	return all[l.below(len(all))]
}

// of is how samples may be.
func of(channels, bits int) api.Wav {
	return api.Wav{Channels: channels, Bits: bits}
}

// shapes are all that there are.
func shapes() []api.Wav {
	var all []api.Wav
	for channels := 1; channels <= 8; channels++ {
		all = append(all, of(channels, 8), of(channels, 16))
	}
	return all
}

// sounds are rules by which the sample of a channel comes about, of so many bits.
func sounds() map[string]func(l *luck, channel, frame, bits int) int {
	return map[string]func(l *luck, channel, frame, bits int) int{
		"none":     func(*luck, int, int, int) int { return 0 },
		"the same": func(_ *luck, c, _, _ int) int { return 3*c - 11 },
		"rising":   func(_ *luck, c, n, _ int) int { return (c+1)*n - 50 },
		"curved":   func(_ *luck, c, n, _ int) int { return n*n/3 - c*n },
		"a tone": func(_ *luck, c, n, bits int) int {
			return int(math.Round(float64(int(1)<<(bits-2)) * math.Sin(float64(n+3*c)/5)))
		},
		"a hum": func(l *luck, c, n, bits int) int {
			return int(math.Round(float64(int(1)<<(bits-3))*math.Sin(float64(n)/9))) + c%2 + l.below(5)
		},
		"noise":    func(l *luck, _, _, bits int) int { return l.below(1 << bits) },
		"soft":     func(l *luck, _, _, _ int) int { return l.below(9) - 4 },
		"the ends": func(_ *luck, c, n, bits int) int { return []int{-1 << (bits - 1), 1<<(bits-1) - 1}[(c+n)%2] },
		"a click":  func(_ *luck, _, n, bits int) int { return map[bool]int{true: -1 << (bits - 1)}[n == 40] },
	}
}

// samples are so many frames of a sound.
func (l *luck) samples(w api.Wav, frames int, sound func(l *luck, channel, frame, bits int) int) []byte {
	var out []byte
	for n := range frames {
		for c := range w.Channels {
			v := sound(l, c, n, w.Bits)
			if w.Bits == 8 {
				out = append(out, byte(v+128))
			} else {
				out = binary.LittleEndian.AppendUint16(out, uint16(v))
			}
		}
	}
	return out
}

// still is a file of so many bytes, or a frame more at most, in which each channel stays where it is.
func still(w api.Wav, size int, at func(channel int) int) []byte {
	var l luck
	frame := w.Channels * w.Bits / 8
	frames := (max(size-44, 1) + frame - 1) / frame
	return wav.Make(w, l.samples(w, frames, func(_ *luck, c, _, _ int) int { return at(c) }))
}

// chunk is one that tells this size, whatever content it has.
func chunk(name string, size uint32, content ...byte) []byte {
	return append(binary.LittleEndian.AppendUint32([]byte(name), size), content...)
}

// format is a chunk that tells how samples are, of a content that is longer by more.
func format(w api.Wav, more ...byte) []byte {
	b := binary.LittleEndian.AppendUint16(nil, 1)
	b = binary.LittleEndian.AppendUint16(b, uint16(w.Channels))
	b = append(b, "\xde\xad\xbe\xef\xfe\xed\xfa\xce\x99\x88"...)
	b = binary.LittleEndian.AppendUint16(b, uint16(w.Bits))
	return chunk("fmt ", uint32(len(b)+len(more)), append(b, more...)...)
}

// file is one of these chunks, of which the length that it tells is another one.
func file(parts ...[]byte) []byte {
	return append([]byte("RIFF\xc3\x00\xff\x17WAVE"), bytes.Join(parts, nil)...)
}

// odd are files of these samples that say other things of themselves than those that are made, or that are not so.
func odd(w api.Wav, samples []byte) map[string][]byte {
	n := uint32(len(samples))
	frame := w.Channels * w.Bits / 8
	made := wav.Make(w, samples)
	return map[string][]byte{
		"as made":               made,
		"a chunk behind":        append(bytes.Clone(made), chunk("LIST", 2, 'a', 'b')...),
		"a byte behind":         append(bytes.Clone(made), 1),
		"many bytes behind":     append(bytes.Clone(made), bytes.Repeat([]byte("much "), 100)...),
		"other samples behind":  append(bytes.Clone(made), chunk("data", n, samples...)...),
		"a whole file behind":   append(bytes.Clone(made), made...),
		"a part of a frame":     wav.Make(w, append(bytes.Clone(samples), make([]byte, frame-1)...)),
		"a size of an end":      file(format(w), chunk("data", 1<<32-1, samples...)),
		"a size beyond":         file(format(w), chunk("data", n+1, samples...)),
		"a lesser size":         file(format(w), chunk("data", uint32(frame), samples...)),
		"an odd size":           file(format(w), chunk("data", n|1, append(bytes.Clone(samples), 0, 'x')...)),
		"chunks ahead":          file(chunk("LIST", 3, 1, 2, 3, 4), chunk("fact", 0), format(w), chunk("data", n, samples...)),
		"a chunk between":       file(format(w), chunk("LIST", 1, 9, 9), chunk("data", n, samples...)),
		"many chunks ahead":     file(bytes.Repeat(chunk("LIST", 0), 60), format(w), chunk("data", n, samples...)),
		"a longer format":       file(format(w, 1, 2, 3, 4), chunk("data", n, samples...)),
		"a second format":       file(format(w), format(of(w.Channels%8+1, 24-w.Bits)), chunk("data", n, samples...)),
		"a short format":        file(chunk("fmt ", 2, 7, 7), format(w), chunk("data", n, samples...)),
		"data ahead":            file(chunk("data", 2, 7, 7), format(w), chunk("data", n, samples...)),
		"a file in its samples": file(format(w), chunk("data", uint32(len(made)), made...)),
	}
}
