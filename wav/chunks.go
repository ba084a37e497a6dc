package wav

import (
	"valise/api"
	"valise/num"
)

const (
	nameSize = 4 // bytes of a chunk's name
	sizeSize = 4 // in which its size is written
)

// chunks goes through the chunks of a file. It stands in the content of one, of which size bytes are still to be read, as far as the file tells; of none at first. As a reader at fault stays so, a walk that has ended does, too.
type chunks struct {
	*num.Reader
	name string
	size uint64
}

// head reads what is ahead of the first chunk; false, if that is not how a WAV file begins.
func (c *chunks) head() bool {
	riff := string(c.Raw(nameSize))
	c.Raw(sizeSize) // how long the file says it is counts for nothing
	return riff == "RIFF" && string(c.Raw(nameSize)) == "WAVE"
}

// next goes to the content of the next chunk; false, if there is none.
func (c *chunks) next() bool {
	behind := c.size + c.size%2
	if behind > uint64(c.Left()) { // asked while it may be past an int
		return false
	}
	c.Raw(int(behind))
	c.name = string(c.Raw(nameSize))
	c.size = c.Little(sizeSize)
	return c.Err() == api.OK
}

// find goes to the content of the next chunk of that name with so many bytes at least; false, if there is none.
func (c *chunks) find(name string, least uint64) bool {
	for c.next() {
		if c.name == name && c.size >= least {
			return true
		}
	}
	return false
}

// format reads the beginning of a format's content; false, if the file ends in it, or samples may not be so.
func (c *chunks) format() (api.Wav, bool) {
	kind := c.Little(2)
	channels := c.Little(2)
	c.Raw(10) // how fast the samples are played, and how long a frame is
	bits := c.Little(2)
	c.size -= formatSize
	w := api.Wav{Channels: int(channels), Bits: int(bits)}
	return w, c.Err() == api.OK && kind == wholeNumbers && fits(w)
}

// maker writes a file.
type maker struct {
	num.Writer
}

// begin writes what is ahead of a chunk's content.
func (m *maker) begin(name string, size int) {
	m.Raw([]byte(name))
	m.Little(uint64(size), sizeSize)
}
