package tracks

import (
	"math/big"
	"slices"
	"sync"

	"valise/api"
)

// luck is a row of numbers that look like chance, and are the same each time.
type luck uint64

func (l *luck) below(n int) int {
	*l = *l*6364136223846793005 + 1442695040888963407
	return int(uint64(*l)>>33) % n
}

// bytes are n of any.
func (l *luck) bytes(n int) []byte {
	out := make([]byte, n)
	for i := range out {
		out[i] = byte(l.below(256))
	}
	return out
}

// one is one of them.
func one[T any](l *luck, all ...T) T {
	return all[l.below(len(all))]
}

// numbers are n of any, or near the ends of what samples and numbers may be.
func (l *luck) numbers(n int) []int32 {
	out := make([]int32, n)
	for i := range out {
		out[i] = int32(uint32(l.below(1<<16)<<16 | l.below(1<<16)))
		if l.below(2) == 0 {
			out[i] = one(l, ends()...)
		}
	}
	return out
}

// samples are n of so many bits.
func (l *luck) samples(n, bits int) []int32 {
	out := make([]int32, n)
	for i := range out {
		out[i] = int32(l.below(1<<bits) - 1<<bits/2)
	}
	return out
}

// tracks are some that may be joined, but for one thing at most.
func (l *luck) tracks(bits int) [][]int32 {
	out := make([][]int32, 1+l.below(8))
	n := l.below(20)
	for i := range out {
		out[i] = l.samples(n, bits)
	}
	i := l.below(len(out))
	switch l.below(8) {
	case 0:
		out[i] = l.samples(l.below(20), bits)
	case 1:
		out[i] = l.numbers(n)
	case 2:
		if n > 0 {
			out[i][l.below(n)] = one(l, ends()...)
		}
	}
	return out
}

// ends are numbers at which something begins, ends or goes round.
func ends() []int32 {
	return []int32{
		0, 1, -1, 2, -2, 3, -3,
		-1 << 31, -1<<31 + 1, -1<<31 + 2, 1<<31 - 1, 1<<31 - 2, 1<<31 - 3,
		-1 << 30, -1<<30 - 1, 1 << 30, 1<<30 - 1,
		127, 128, 129, -127, -128, -129, 255, 256, -255, -256,
		1<<15 - 1, 1 << 15, 1<<15 + 1, -1<<15 + 1, -1 << 15, -1<<15 - 1, 1<<16 - 1, 1 << 16, -1 << 16,
	}
}

// counts are such as may be no number of channels.
func counts() []int {
	return []int{-1 << 63, -1 << 31, -1<<16 + 1, -256, -8, -2, -1, 0, 9, 10, 16, 255, 256, 257, 1<<16 + 1, 1<<32 + 1, 1<<31 - 1, 1<<63 - 1}
}

// widths are such as may be no number of bits.
func widths() []int {
	return []int{-1 << 63, -1 << 32, -16, -8, -1, 0, 1, 2, 4, 7, 9, 12, 15, 17, 20, 24, 32, 64, 8 + 1<<8, 8 + 1<<16, 16 + 1<<32, 1<<31 - 1, 1<<63 - 1}
}

// may tells whether there may be so many tracks of so many bits.
func may(tracks, bits int) bool {
	return slices.Contains([]int{1, 2, 3, 4, 5, 6, 7, 8}, tracks) && slices.Contains([]int{8, 16}, bits)
}

// sampleByWords is the one that these bytes are.
func sampleByWords(b ...byte) int32 {
	if len(b) == 1 {
		return int32(b[0]) - 128
	}
	n := int32(b[0]) + 256*int32(b[1])
	if n > 1<<15-1 { // no number of 16 bits with a sign
		n -= 1 << 16
	}
	return n
}

// splitByWords hands out sample by sample, to one channel behind the other.
func splitByWords(b []byte, channels, bits int) ([][]int32, api.Errno) {
	if !may(channels, bits) {
		return nil, api.ErrArg
	}
	out := make([][]int32, channels)
	next := 0
	for part := range slices.Chunk(b, bits/8) {
		if len(part) < bits/8 {
			return nil, api.ErrForm
		}
		out[next] = append(out[next], sampleByWords(part...))
		next = (next + 1) % channels
	}
	if next != 0 {
		return nil, api.ErrForm
	}
	return out, api.OK
}

// samplesOf are all that there are of so many bits, and of which bytes they are.
var samplesOf = sync.OnceValue(func() map[int]map[int32][]byte {
	all := map[int]map[int32][]byte{8: {}, 16: {}}
	for i := range 256 {
		all[8][sampleByWords(byte(i))] = []byte{byte(i)}
		for j := range 256 {
			all[16][sampleByWords(byte(i), byte(j))] = []byte{byte(i), byte(j)}
		}
	}
	return all
})

// joinByWords looks up each sample.
func joinByWords(bits int, tracks ...[]int32) ([]byte, api.Errno) {
	if !may(len(tracks), bits) {
		return nil, api.ErrArg
	}
	var lengths []int
	for _, track := range tracks {
		lengths = append(lengths, len(track))
	}
	if slices.Min(lengths) != slices.Max(lengths) {
		return nil, api.ErrForm
	}
	var out []byte
	for i := range lengths[0] {
		for _, track := range tracks {
			part, ok := samplesOf()[bits][track[i]]
			if !ok {
				return nil, api.ErrForm
			}
			out = append(out, part...)
		}
	}
	return out, api.OK
}

// round is v, as often as it takes 2^32 nearer, so that it is a number of 32 bits.
func round(v *big.Int) *big.Int {
	whole, half := big.NewInt(1<<32), big.NewInt(1<<31)
	low := new(big.Int).Add(v, half)
	low.Mod(low, whole) // never below 0
	return low.Sub(low, half)
}

// halved is s, shifted by one to the right: the greatest number of which twice is not above it.
func halved(s *big.Int) *big.Int {
	even := new(big.Int).Sub(s, new(big.Int).Mod(s, big.NewInt(2)))
	return even.Quo(even, big.NewInt(2))
}

// midByWords is what Mid is of a pair, worked out with numbers of any size.
func midByWords(l, r int32) (m, s int32) {
	left, right := big.NewInt(int64(l)), big.NewInt(int64(r))
	side := round(new(big.Int).Sub(left, right))
	return small(round(new(big.Int).Add(right, halved(side)))), small(side)
}

// unmidByWords turns midByWords round.
func unmidByWords(m, s int32) (l, r int32) {
	middle, side := big.NewInt(int64(m)), big.NewInt(int64(s))
	right := round(new(big.Int).Sub(middle, halved(side)))
	return small(round(new(big.Int).Add(right, side))), small(right)
}

func small(v *big.Int) int32 {
	return int32(v.Int64())
}
