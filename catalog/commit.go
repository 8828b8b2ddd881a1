package catalog

import (
	"maps"
	"slices"

	"wattle/api"
	"wattle/extent"
	"wattle/journal"
	"wattle/page"
	"wattle/tree"
)

// Change is what shall happen at once.
type Change struct {
	Put    []Entry
	Delete []Key
}

// moves are the extents that a change takes, and gives back.
type moves struct{ taken, given []api.Extent }

// image is what a change makes of the tree's pages: those that are new, or others, the numbers of those that are no more, the root.
type image struct {
	changed []tree.Page
	freed   []int
	root    int
	anew    bool // some have other numbers than in memory
}

// Commit makes a change, wholly or not at all.
func (s *Store) Commit(c Change) (e api.Errno) {
	if e := s.up(); e != api.OK {
		return e
	}
	x, e := s.judge(c)
	if e != api.OK {
		return e
	}
	for _, m := range [...]*extent.Map{s.space.Map(), s.disk} {
		if m.Begin() != api.OK {
			return api.ErrState
		}
		defer func() {
			if e != api.OK {
				m.Abort()
			}
		}()
	}
	defer func() {
		if e != api.OK {
			s.restore()
		}
	}()
	if e := s.apply(c); e != api.OK {
		return e
	}
	m, e := s.image()
	if e != api.OK {
		return e
	}
	before := s.fixed(s.root)
	if e := s.account(x, m); e != api.OK {
		return e
	}
	if s.pinned(x.given) {
		return api.ErrState
	}
	if e := s.write(m, before); e != api.OK {
		return s.noting(e)
	}
	return s.settle(x, m)
}

// judge says whether a change may be, and which extents it moves.
func (s *Store) judge(c Change) (moves, api.Errno) {
	keys := map[string]int{}
	for _, x := range c.Put {
		keys[x.key().text()]++
		if !x.key().may() {
			return moves{}, api.ErrName
		}
	}
	for _, k := range c.Delete {
		keys[k.text()]++
		if !k.may() {
			return moves{}, api.ErrName
		}
	}
	if len(keys) < len(c.Put)+len(c.Delete) {
		return moves{}, api.ErrArg
	}
	var x moves
	claimed := map[int]int{}
	for _, p := range c.Put {
		old, _ := s.get(p.key())
		if len(p.Data) > MaxData || !s.mayHave(p.X, old.X, claimed) {
			return moves{}, api.ErrArg
		}
		if p.X != old.X {
			x.taken = append(x.taken, p.X)
			x.given = append(x.given, old.X)
		}
	}
	for _, k := range c.Delete {
		old, e := s.get(k)
		if e != api.OK {
			return moves{}, e
		}
		x.given = append(x.given, old.X)
	}
	none := func(x api.Extent) bool { return x == api.Extent{} }
	return moves{slices.DeleteFunc(x.taken, none), slices.DeleteFunc(x.given, none)}, api.OK
}

// mayHave says whether an entry may have an extent, in the place of its old one; blocks that others of the change have are claimed.
func (s *Store) mayHave(x, old api.Extent, claimed map[int]int) bool {
	if x == (api.Extent{}) {
		return true
	}
	if x.Len < 1 || x.Start < s.lay.dataAt() || x.Start > s.lay.blocks || x.Len > s.lay.blocks-x.Start {
		return false
	}
	for no := x.Start; no < x.Start+x.Len; no++ {
		if !s.space.Map().Taken(no) || x != old && s.disk.Taken(no) || claimed[no] > 0 {
			return false
		}
		claimed[no] = 1
	}
	return true
}

// apply makes the change in the tree, whose new pages get numbers that are no block's.
func (s *Store) apply(c Change) api.Errno {
	for _, k := range c.Delete {
		if e := s.tree.Delete(k.text()); e != api.OK {
			return e
		}
	}
	for _, x := range c.Put {
		for len(s.tree.Given()) < s.tree.Need() {
			s.virtual++
			if e := s.tree.Give([]int{s.virtual}); e != api.OK {
				return e
			}
		}
		if e := s.tree.Put(x.key().text(), x.value()); e != api.OK {
			return e
		}
	}
	return api.OK
}

// image is that of the tree, with blocks in the place of the numbers that are none.
func (s *Store) image() (image, api.Errno) {
	m := image{s.tree.Changed(), s.tree.Freed(), s.tree.Root(), false}
	blocks := map[int]int{}
	for _, p := range m.changed {
		if p.No < s.lay.blocks {
			continue
		}
		x, e := s.space.Map().Alloc(1)
		if e != api.OK {
			return image{}, e
		}
		blocks[p.No] = x.Start
		m.anew = true
	}
	if !m.anew {
		return m, api.OK
	}
	place := func(no int) int {
		if b, ok := blocks[no]; ok {
			return b
		}
		return no
	}
	m.root = place(m.root)
	for i, p := range m.changed {
		n, e := page.Decode(p.Text)
		if e != api.OK {
			return image{}, e
		}
		for j, kid := range n.Kids {
			n.Kids[j] = uint32(place(int(kid)))
		}
		text, e := page.Encode(n, s.lay.size)
		if e != api.OK {
			return image{}, e
		}
		m.changed[i] = tree.Page{No: place(p.No), Text: text}
	}
	return m, api.OK
}

// fixed are the root block and the bitmap.
func (s *Store) fixed(root int) []string {
	return append([]string{s.lay.root(root)}, s.lay.bitmap(s.disk)...)
}

// account moves in both maps what the change takes and gives back.
func (s *Store) account(x moves, m image) api.Errno {
	given := slices.Clone(x.given)
	for _, no := range m.freed {
		given = append(given, block(no))
	}
	for _, g := range given {
		if e := s.space.Map().Free(g); e != api.OK {
			return e
		}
		if e := s.disk.Free(g); e != api.OK {
			return e
		}
	}
	taken := slices.Clone(x.taken)
	for _, p := range m.changed {
		if _, old := s.pages[p.No]; !old {
			taken = append(taken, block(p.No))
		}
	}
	for _, t := range taken {
		if e := s.disk.Take(t); e != api.OK {
			return e
		}
	}
	return api.OK
}

// pinned says whether a page of these extents is pinned.
func (s *Store) pinned(l []api.Extent) bool {
	for _, x := range l {
		for i := range x.Len {
			if _, e := s.space.Text(x.Start + i); e == api.OK {
				return true
			}
		}
	}
	return false
}

// write writes what the change makes other on the device, at once.
func (s *Store) write(m image, before []string) api.Errno {
	var l []journal.Write
	for _, p := range m.changed {
		l = append(l, journal.Write{Block: p.No, Data: p.Text})
	}
	for i, text := range s.fixed(m.root) {
		if text != before[i] {
			l = append(l, journal.Write{Block: s.lay.rootAt() + i, Data: text})
		}
	}
	if len(l) > s.j.Most() {
		return api.ErrLog
	}
	if e := s.space.Flush(); e != api.OK {
		return e
	}
	if e := s.j.Commit(l); e != api.OK {
		return e
	}
	if len(m.freed) == 0 {
		return api.OK
	}
	return s.j.Checkpoint() // else a page that is done again might overwrite what its block has become
}

// settle makes what is written now what the store has.
func (s *Store) settle(x moves, m image) api.Errno {
	s.space.Map().Commit()
	s.disk.Commit()
	s.stored(m)
	if m.anew {
		if e := s.restore(); e != api.OK {
			return e
		}
	} else {
		s.tree.Clean()
	}
	drop := x.given
	for _, p := range m.changed { // what the cache has of a page is what it was ahead of the change
		drop = append(drop, block(p.No))
	}
	for _, no := range m.freed {
		drop = append(drop, block(no))
	}
	for _, g := range drop {
		s.space.Drop(g)
	}
	return api.OK
}

// restore makes the tree that of the pages that stand on the device.
func (s *Store) restore() api.Errno {
	var l []tree.Page
	for _, no := range slices.Sorted(maps.Keys(s.pages)) {
		l = append(l, s.pages[no])
	}
	t, e := tree.Load(s.lay.size, s.root, l)
	if e == api.OK {
		s.tree = t
	}
	return e
}
