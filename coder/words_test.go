package coder

// luck is a row of numbers that look like chance, and are the same each time.
type luck uint64

func (l *luck) below(n int) int {
	*l = *l*6364136223846793005 + 1442695040888963407
	return int(uint64(*l)>>33) % n
}

// text is n bytes, the odd ones among them too.
func (l *luck) text(n int) []byte {
	b := make([]byte, n)
	for i := range b {
		b[i] = []byte{0, 1, 0x7f, 0x80, 0xff, byte(l.below(256)), byte(l.below(256)), byte(l.below(256))}[l.below(8)]
	}
	return b
}

// chance is one of those that may be, the edges more often than others.
func (l *luck) chance() int {
	return []int{1, 2, 2047, 2048, 2049, 4094, 4095, 1 + l.below(4095), 1 + l.below(4095), 1 + l.below(4095)}[l.below(10)]
}

// step is a bit and its chance.
type step struct{ bit, chance int }

// steps is n of them. The kind is how they go: 0, as the chance says; 1, by halves; 2, always the less likely bit; 3, always the likelier one.
func (l *luck) steps(n, kind int) []step {
	all := make([]step, n)
	for i := range all {
		s := step{chance: l.chance()}
		switch kind {
		case 0:
			s.bit = toBit(l.below(4096) < s.chance)
		case 1:
			s.bit = l.below(2)
		case 2:
			s.bit = toBit(s.chance < 2048)
		case 3:
			s.bit = toBit(s.chance >= 2048)
		}
		all[i] = s
	}
	return all
}

func toBit(one bool) int {
	if one {
		return 1
	}
	return 0
}

// byWords is a range as the chapter's words say it, in numbers of 64 bits in which nothing goes round.
type byWords struct {
	low, high uint64
	out       []byte
}

func newByWords() *byWords {
	return &byWords{high: 1<<32 - 1}
}

func (w *byWords) mid(chance int) uint64 {
	c := uint64(chance)
	if chance < 1 {
		c = 1
	} else if chance > 4095 {
		c = 4095
	}
	part, rest := (w.high-w.low)/4096, (w.high-w.low)%4096
	return w.low + part*c + rest*c/4096
}

func (w *byWords) encode(s step) {
	mid := w.mid(s.chance)
	if s.bit != 0 {
		w.high = mid
	} else {
		w.low = mid + 1
	}
	for w.low/(1<<24) == w.high/(1<<24) {
		w.out = append(w.out, byte(w.low/(1<<24)))
		w.low = w.low * 256 % (1 << 32)
		w.high = (w.high*256 + 255) % (1 << 32)
	}
}

// flushed is what Flush answers now.
func (w *byWords) flushed() []byte {
	out := append([]byte(nil), w.out...)
	for _, unit := range []uint64{1 << 24, 1 << 16, 1 << 8, 1} {
		out = append(out, byte(w.low/unit))
	}
	return out
}

// decoded is what a decoder of b answers with these chances, and how many bytes past the end it took. The bit is looked for by what the encoder would put out: the code is the four bytes that stand where its range does.
func decoded(b []byte, chances []int) (bits []int, past int) {
	w := newByWords()
	at := func(i int) uint64 {
		if i < len(b) {
			return uint64(b[i])
		}
		return 0
	}
	for _, chance := range chances {
		k := len(w.out)
		code := at(k)<<24 + at(k+1)<<16 + at(k+2)<<8 + at(k+3)
		bit := toBit(code <= w.mid(chance))
		bits = append(bits, bit)
		w.encode(step{bit, chance})
	}
	return bits, max(len(w.out)+4-len(b), 0)
}
