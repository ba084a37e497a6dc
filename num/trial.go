package num

import (
	"valise/api"
)

// trial goes ahead of a reader that follows only if no fault is met, so that it stays where the thing at fault begins, however many parts that has. It reads as the reader does, since one is embedded.
type trial struct {
	Reader
	home *Reader
}

// trial is one that goes ahead of r; of nil, one that is at fault from the start.
func (r *Reader) trial() *trial {
	if r == nil {
		return &trial{Reader: Reader{fault: api.ErrNil}}
	}
	return &trial{Reader: *r, home: r}
}

// settle ends the trial: its reader goes to where it got, or learns the fault and stays.
func (t *trial) settle() {
	switch {
	case t.home == nil:
	case t.fault != api.OK:
		t.home.fault = t.fault
	default:
		t.home.at = t.at
	}
}
