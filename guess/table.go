package guess

const maxGuesses = 1 << 16

// Table is guesses, each told by its place. One that is zero has none, and answers as nil does.
//
// The methods of row, promoted, find a guess; they can't be had from nil, nor where there is none, so each call asks for Len first.
type Table struct {
	row
}

// row is guesses in a ring: a place before the first, or behind the last, is one of them too.
type row []uint16

// New is n guesses by which a one is as likely as a zero.
func New(n int) *Table {
	guesses := make(row, min(max(n, 1), maxGuesses))
	for i := range guesses {
		guesses[i] = even
	}
	return &Table{guesses}
}

// At is the chance of a one by the guess at place i.
func (t *Table) At(i int) int {
	if t.Len() == 0 {
		return 0
	}
	return Chance(*t.place(i))
}

// Learn tells the guess at place i that the bit has come.
func (t *Table) Learn(i, bit, rate int) {
	if t.Len() == 0 {
		return
	}
	p := t.place(i)
	*p = Next(*p, bit, rate)
}

// Len is how many guesses there are.
func (t *Table) Len() int {
	if t == nil {
		return 0
	}
	return len(t.row)
}

// place is where the guess lies. A rest has the sign of i, so one below 0 is counted from the end.
func (r row) place(i int) *uint16 {
	i %= len(r)
	if i < 0 {
		i += len(r)
	}
	return &r[i]
}
