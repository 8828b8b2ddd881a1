package catalog

import (
	"iter"
	"strings"

	"wattle/api"
	"wattle/blockdev"
	"wattle/extent"
	"wattle/num"
	"wattle/page"
	"wattle/sums"
	"wattle/tree"
)

const (
	superMark = "WTSB"
	rootMark  = "WTRB"
	version   = 1
	journalAt = 1 // the journal's first block
)

// layout is where all stands on a device.
type layout struct{ blocks, size, log int }

func (l layout) rootAt() int { return journalAt + l.log }

func (l layout) bitmapAt() int { return l.rootAt() + 1 }

func (l layout) bitmapBytes() int { return (l.blocks + 7) / 8 }

func (l layout) bitmapBlocks() int { return (l.bitmapBytes() + l.size - 1) / l.size }

func (l layout) dataAt() int { return l.bitmapAt() + l.bitmapBlocks() }

// may says whether a device may be laid out so.
func (l layout) may() bool {
	return l.log >= MinLog && l.log <= l.blocks && l.blocks-l.dataAt() >= MinData
}

func (l layout) filled(s string) string { return s + strings.Repeat("\x00", l.size-len(s)) }

// super is the super block.
func (l layout) super() string {
	s := superMark
	for _, v := range [...]int{version, l.blocks, l.size / api.Sector, l.log} {
		s += num.Text(uint64(v), 4)
	}
	return l.filled(s + num.Text(uint64(sums.Crc(s)), 4))
}

// root is the root block of a tree.
func (l layout) root(no int) string { return l.filled(rootMark + num.Text(uint64(no), 4)) }

// bitmap are the blocks of a map's bits.
func (l layout) bitmap(m *extent.Map) []string {
	bits := m.Bits()
	var blocks []string
	for range l.bitmapBlocks() {
		n := min(l.size, len(bits))
		blocks = append(blocks, l.filled(bits[:n]))
		bits = bits[n:]
	}
	return blocks
}

// layoutOf is the layout that a device's super block tells, if that is one of this device.
func layoutOf(d *blockdev.Device) (layout, api.Errno) {
	text, e := d.Read(0)
	if e != api.OK {
		return layout{}, e
	}
	const logAt = 16
	l := layout{d.Blocks(), d.Size(), int(num.Of(text[logAt : logAt+4]))}
	if !l.may() || text != l.super() {
		return layout{}, api.ErrForm
	}
	return l, api.OK
}

// content is what a device keeps.
type content struct {
	tree *tree.Tree
	disk *extent.Map // what is taken on the device
}

// load is what stands on a device, if that belongs together.
func (l layout) load(d *blockdev.Device) (content, api.Errno) {
	text, e := d.Read(l.rootAt())
	if e != api.OK {
		return content{}, e
	}
	root := int(num.Of(text[len(rootMark) : len(rootMark)+4]))
	if text != l.root(root) {
		return content{}, api.ErrCorrupt
	}
	var pages []tree.Page
	for p, e := range l.pages(d, root) {
		if e != api.OK {
			return content{}, e
		}
		pages = append(pages, p)
	}
	t, e := tree.Load(l.size, root, pages)
	if e != api.OK {
		return content{}, api.ErrCorrupt
	}
	disk, e := l.taken(t, pages)
	if e != api.OK {
		return content{}, api.ErrCorrupt
	}
	for i, want := range l.bitmap(disk) {
		text, e := d.Read(l.bitmapAt() + i)
		if e != api.OK {
			return content{}, e
		}
		if text != want {
			return content{}, api.ErrCorrupt
		}
	}
	return content{t, disk}, api.OK
}

// pages are those of a tree, from its root on, as far as they are such.
func (l layout) pages(d *blockdev.Device, root int) iter.Seq2[tree.Page, api.Errno] {
	return func(yield func(tree.Page, api.Errno) bool) {
		seen := map[int]int{}
		next := []int{root}
		for root != 0 && len(next) > 0 {
			no := next[0]
			next = next[1:]
			if no < l.dataAt() || no >= l.blocks || seen[no] > 0 {
				yield(tree.Page{}, api.ErrCorrupt)
				return
			}
			seen[no] = 1
			text, e := d.Read(no)
			if !yield(tree.Page{No: no, Text: text}, e) || e != api.OK {
				return
			}
			n, _ := page.Decode(text)
			for _, kid := range n.Kids {
				next = append(next, int(kid))
			}
		}
	}
}

// taken is the map of what pages and entries take.
func (l layout) taken(t *tree.Tree, pages []tree.Page) (*extent.Map, api.Errno) {
	m, e := extent.New(l.dataAt(), l.blocks)
	if e != api.OK {
		return nil, e
	}
	for _, p := range pages {
		if e := m.Take(block(p.No)); e != api.OK {
			return nil, e
		}
	}
	all, e := t.Range("", t.Len())
	if e != api.OK {
		return nil, e
	}
	for _, x := range all {
		entry, ok := entryOf(x)
		if !ok {
			return nil, api.ErrCorrupt
		}
		if entry.X == (api.Extent{}) {
			continue
		}
		if e := m.Take(entry.X); e != api.OK {
			return nil, e
		}
	}
	return m, api.OK
}

// block is a block as an extent.
func block(no int) api.Extent { return api.Extent{Start: no, Len: 1} }
