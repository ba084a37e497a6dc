package colour

// luck is a row of numbers that look like chance, and are the same each time.
type luck uint64

func (l *luck) below(n int) int {
	*l = *l*6364136223846793005 + 1442695040888963407
	return int(uint64(*l)>>33) % n
}

// one is one of them.
func one[T any](l *luck, all ...T) T {
	return all[l.below(len(all))]
}

// bytes are n of any, or of few, or near the ends of what a byte may be.
func (l *luck) bytes(n int) []byte {
	out := make([]byte, n)
	most := one(l, 256, 256, 4)
	for i := range out {
		out[i] = byte(l.below(most))
		if l.below(8) == 0 {
			out[i] = one[byte](l, 0, 1, 127, 128, 129, 254, 255)
		}
	}
	return out
}

// planes are how many may be asked for: some that there may be, and some that count as 1, or as 16.
func (l *luck) planes() int {
	if l.below(4) == 0 {
		return one(l, strange()...)
	}
	return 1 + l.below(16)
}

// strange are such as count as 1, or as 16.
func strange() []int {
	return []int{least, least + 1, -1 << 31, -65535, -257, -256, -255, -17, -16, -3, -2, -1, 0, 17, 18, 31, 32, 33, 255, 256, 257, 65536, 65538, 1<<31 - 1, most - 1, most}
}

const (
	most  = int(^uint(0) >> 1)
	least = -most - 1
)

// turnByWords is what Turn is, by the chapter's words.
func turnByWords(b []byte) []byte {
	return threeByThree(b, func(outer, green int) int { return (outer - green + 256) % 256 })
}

// backByWords is what Back is: the one byte of which the other comes.
func backByWords(b []byte) []byte {
	return threeByThree(b, func(outer, green int) int { return (outer + green) % 256 })
}

// threeByThree is b, with what becomes of the outer ones of each three bytes.
func threeByThree(b []byte, become func(outer, green int) int) []byte {
	var out []byte
	for len(b) > 2 {
		r, g, u := int(b[0]), int(b[1]), int(b[2])
		out = append(out, byte(become(r, g)), byte(g), byte(become(u, g)))
		b = b[3:]
	}
	return append(out, b...)
}

// countsAs is how many planes there are, if n are asked for.
func countsAs(n int) int {
	if n < 1 {
		return 1
	}
	if n > 16 {
		return 16
	}
	return n
}

// apartByWords is what Apart is, of things of any kind.
func apartByWords[T any](b []T, n int) []T {
	n = countsAs(n)
	m := len(b) / n
	var out []T
	for plane := range n {
		for k := range m {
			out = append(out, b[plane+k*n])
		}
	}
	return append(out, b[len(out):]...)
}

// togetherByWords is what Together is: each byte goes where the one that Apart has there comes from.
func togetherByWords(b []byte, n int) []byte {
	places := make([]int, len(b))
	for i := range places {
		places[i] = i
	}
	out := make([]byte, len(b))
	for i, from := range apartByWords(places, n) {
		out[from] = b[i]
	}
	return out
}
