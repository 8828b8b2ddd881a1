package sorter

import (
	"wattle/api"
	"wattle/pool"
	"wattle/stream"
)

// run is sorted records in a scratch extent.
type run struct {
	x     api.Extent
	bytes int
}

// cursor goes through a run, of which it has as many records as a block has room for.
type cursor struct {
	r    *stream.Reader
	at   int // of what is read next
	have string
}

// fill reads on, if no record is there.
func (c *cursor) fill(most int) api.Errno {
	if c.have != "" {
		return api.OK
	}
	n := min(most, c.r.Length()-c.at)
	text, e := c.r.ReadAt(c.at, n)
	c.have = text
	c.at += n
	return e
}

// merge tells the records of some runs in order.
type merge struct {
	width, most int
	waiting     heap[*cursor]
	last        string // what was told last, of a unique one
	unique      bool
}

func newMerge(s *pool.Space, l []run, width int, unique bool) (*merge, api.Errno) {
	m := &merge{width: width, most: s.Size() / width * width, unique: unique}
	m.waiting.less = func(a, b *cursor) bool { return a.have[:width] < b.have[:width] }
	for _, x := range l {
		r, e := stream.Open(s, x.x)
		if e != api.OK {
			return nil, e
		}
		if r.Length() != x.bytes {
			return nil, api.ErrCorrupt
		}
		c := &cursor{r: r}
		if e := c.fill(m.most); e != api.OK {
			return nil, e
		}
		m.waiting.push(c)
	}
	return m, api.OK
}

// next is the next record, and ErrNone behind the last.
func (m *merge) next() (string, api.Errno) {
	for len(m.waiting.l) > 0 {
		c := m.waiting.l[0]
		record := c.have[:m.width]
		c.have = c.have[m.width:]
		if e := c.fill(m.most); e != api.OK {
			return "", e
		}
		if c.have == "" {
			m.waiting.pop()
		} else {
			m.waiting.sink()
		}
		if !m.unique || record != m.last {
			m.last = record
			return record, api.OK
		}
	}
	return "", api.ErrNone
}
