package model

const (
	contexts = 3      // by so many a bit is guessed
	parts    = 1 << 8 // of a byte: what comes to as much has all its bits
)

// past is what has come: the byte that is under way, a one and its bits, and the two whole ones ahead. Numbers without a sign, since on its way the third context comes to more than 2^31.
type past struct {
	part, last, older uint32
}

// places is where each context has its guess of the next bit.
func (p *past) places() [contexts]int {
	two := (p.older<<8|p.last)*40503 + p.part*7919
	return [contexts]int{int(p.part), int(p.last<<8 | p.part), int(two % (1 << 16))}
}

// take lets a bit come, a one unless it is 0.
func (p *past) take(bit int) {
	p.part *= 2
	if bit != 0 {
		p.part++
	}
	if p.part >= parts {
		p.older, p.last, p.part = p.last, p.part-parts, 1
	}
}
