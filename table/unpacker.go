package table

import (
	"valise/api"
	"valise/colour"
	"valise/num"
)

// unpacker reads what Pack writes.
type unpacker struct {
	*num.Reader
}

// records reads the width of all records, and their bytes, if they are at most so many. Width and size are held against their bounds while they may be past an int.
func (u unpacker) records(most int) ([]byte, api.Errno) {
	width, size := u.Num(), u.Num()
	switch {
	case u.Err() != api.OK:
		return nil, u.Err()
	case width < leastWidth || width > mostWidth:
		return nil, api.ErrForm
	case size > uint64(min(max(most, 0), api.MaxData)):
		return nil, api.ErrLimit
	case size != uint64(u.Left()):
		return nil, api.ErrForm
	}
	columns := u.Raw(int(size))
	return Undelta(colour.Together(columns, int(width)), int(width)), api.OK
}
