package extent

import (
	"math/rand"
	"slices"
	"testing"

	"wattle/api"
)

func ext(start, n int) api.Extent { return api.Extent{Start: start, Len: n} }

func made(t *testing.T, from, blocks int) *Map {
	t.Helper()
	m, e := New(from, blocks)
	if e != api.OK {
		t.Fatal(e)
	}
	return m
}

// P6.1, P6.2, P6.3: the chapter's examples.
func TestExamples(t *testing.T) {
	m := made(t, 2, 10)
	for _, x := range []struct {
		n    int
		want api.Extent
		e    api.Errno
	}{{3, ext(2, 3), 0}, {4, ext(5, 4), 0}, {2, ext(0, 0), api.ErrFull}, {0, ext(0, 0), api.ErrArg}, {-1, ext(0, 0), api.ErrArg}, {1, ext(9, 1), 0}} {
		if got, e := m.Alloc(x.n); got != x.want || e != x.e {
			t.Errorf("Alloc(%d): %v, %v", x.n, got, e)
		}
	}
	if m.Free(ext(3, 1)) != 0 || m.Free(ext(3, 1)) != api.ErrArg || m.Free(ext(1, 2)) != api.ErrArg || !slices.Equal(m.Spaces(), []api.Extent{ext(3, 1)}) {
		t.Error("Free")
	}
	if m.Commit() != api.ErrState || m.Abort() != api.ErrState || m.Open() {
		t.Error("no transaction")
	}
	if m.Begin() != 0 || m.Begin() != api.ErrState || !m.Open() || m.Free(ext(5, 4)) != 0 || m.Free(ext(5, 1)) != api.ErrArg || !m.Taken(5) || m.Take(ext(5, 1)) != api.ErrThere {
		t.Error("a transaction")
	}
	if _, e := m.Alloc(2); e != api.ErrFull {
		t.Error("what is leaving is not free")
	}
	if x, e := m.Alloc(1); x != ext(3, 1) || e != 0 || m.Room() != 0 {
		t.Error("one block")
	}
	u := m.Twin()
	if m.Abort() != 0 || !slices.Equal(m.Spaces(), []api.Extent{ext(3, 1)}) || m.Bits() != "\xef\xc0" {
		t.Errorf("undone: %v, %x", m.Spaces(), m.Bits())
	}
	if u.Bits() != "\xf8\x40" || u.Commit() != 0 || !slices.Equal(u.Spaces(), []api.Extent{ext(5, 4)}) || u.Taken(5) {
		t.Errorf("the twin: %x, %v", u.Bits(), u.Spaces())
	}
	if m.Take(ext(3, 1)) != 0 || m.Take(ext(3, 1)) != api.ErrThere {
		t.Error("Take")
	}
	for _, x := range []api.Extent{ext(1, 1), ext(9, 2), ext(3, 0), ext(-1, 4), ext(3, -1), ext(1<<62, 1), ext(3, 1<<62), ext(10, 1)} {
		if m.Take(x) != api.ErrArg || m.Free(x) != api.ErrArg {
			t.Errorf("%v", x)
		}
	}
	if m.Taken(1) || m.Taken(10) || m.Taken(-1) || !m.Taken(9) {
		t.Error("Taken")
	}
}

// P6.1, P6.3: maps that may not be, and bits that are no map's.
func TestRefused(t *testing.T) {
	for _, x := range [][2]int{{-1, 5}, {6, 5}, {0, 4097}, {0, -1}} {
		if m, e := New(x[0], x[1]); m != nil || e != api.ErrArg {
			t.Errorf("%v: %v", x, e)
		}
		if m, e := FromBits(x[0], x[1], ""); m != nil || e != api.ErrArg {
			t.Errorf("%v: %v", x, e)
		}
	}
	for _, s := range []string{"\x3f\x00", "\xff", "\xff\x20", "\xff\x00\x00", "", "\x80\x00"} {
		if m, e := FromBits(2, 10, s); m != nil || e != api.ErrForm {
			t.Errorf("%x: %v", s, e)
		}
	}
	if m, e := FromBits(0, 0, ""); e != 0 || m.Room() != 0 || m.Bits() != "" {
		t.Error("no blocks")
	}
	var m *Map
	_, e := m.Alloc(0)
	if e != api.ErrNil || m.Take(ext(0, 0)) != api.ErrNil || m.Free(ext(0, 0)) != api.ErrNil || m.Begin() != api.ErrNil || m.Commit() != api.ErrNil || m.Abort() != api.ErrNil {
		t.Error("a nil map")
	}
	if m.Open() || m.Spaces() != nil || m.Room() != 0 || m.Taken(0) || m.Bits() != "" || m.Twin() != nil {
		t.Error("a nil map's noughts")
	}
	if z := (&Map{}); z.Begin() != 0 || z.Abort() != 0 || z.Twin() == nil {
		t.Error("made otherwise")
	}
}

// model is a map told plainly: 0 free, 1 taken, 2 leaving.
type model struct {
	from     int
	l, begun []int
	open     bool
}

func (m *model) fits(x api.Extent, want int) bool {
	for i := x.Start; i < x.Start+x.Len; i++ {
		if i < m.from || i >= len(m.l) || m.l[i] != want {
			return false
		}
	}
	return true
}

func (m *model) set(x api.Extent, v int) {
	for i := x.Start; i < x.Start+x.Len; i++ {
		m.l[i] = v
	}
}

func (m *model) alloc(n int) (api.Extent, api.Errno) {
	for s := m.from; s+n <= len(m.l); s++ {
		if x := ext(s, n); m.fits(x, 0) {
			m.set(x, 1)
			return x, 0
		}
	}
	return ext(0, 0), api.ErrFull
}

// P6.4, P6.5, P6.6: as a plain model, through transactions, twins and bits.
func TestModel(t *testing.T) {
	rnd := rand.New(rand.NewSource(1))
	for range 300 {
		blocks := rnd.Intn(60)
		from := rnd.Intn(blocks + 1)
		m, w := made(t, from, blocks), &model{from: from, l: make([]int, blocks)}
		for range 80 {
			x := ext(rnd.Intn(62)-1, 1+rnd.Intn(6))
			switch rnd.Intn(8) {
			case 0, 1:
				got, e := m.Alloc(x.Len)
				if want, f := w.alloc(x.Len); got != want || e != f {
					t.Fatalf("Alloc(%d): %v, %v, want %v", x.Len, got, e, want)
				}
			case 2:
				if ok := w.fits(x, 0); (m.Take(x) == 0) != ok {
					t.Fatalf("Take(%v)", x)
				} else if ok {
					w.set(x, 1)
				}
			case 3, 4:
				v := 0
				if w.open {
					v = 2
				}
				if ok := w.fits(x, 1); (m.Free(x) == 0) != ok {
					t.Fatalf("Free(%v)", x)
				} else if ok {
					w.set(x, v)
				}
			case 5:
				if (m.Begin() == 0) == w.open {
					t.Fatal("Begin")
				}
				if !w.open {
					w.open, w.begun = true, slices.Clone(w.l)
				}
			case 6:
				if (m.Commit() == 0) != w.open {
					t.Fatal("Commit")
				}
				if w.open {
					w.open = false
					for i, v := range w.l {
						w.l[i] = v % 2
					}
				}
			case 7:
				if (m.Abort() == 0) != w.open {
					t.Fatal("Abort")
				}
				if w.open {
					w.open, w.l = false, w.begun
				}
			}
			if rnd.Intn(9) == 0 {
				u := m.Twin()
				m.Alloc(1)
				m = u
			}
			same(t, m, w)
		}
	}
}

func same(t *testing.T, m *Map, w *model) {
	t.Helper()
	room := 0
	bits := make([]byte, (len(w.l)+7)/8)
	for i, v := range w.l {
		if i >= w.from && v == 0 {
			room++
		}
		if i < w.from || v == 1 {
			bits[i/8] |= 128 >> (i % 8)
		}
		if m.Taken(i) != (i >= w.from && v != 0) {
			t.Fatalf("the block %d", i)
		}
	}
	if m.Room() != room || m.Bits() != string(bits) || m.Open() != w.open {
		t.Fatalf("room %d, not %d; %x, not %x", m.Room(), room, m.Bits(), bits)
	}
	last := -1
	for _, x := range m.Spaces() {
		if x.Start <= last || !w.fits(x, 0) {
			t.Fatalf("spaces %v", m.Spaces())
		}
		last = x.Start + x.Len
	}
	n, e := FromBits(w.from, len(w.l), m.Bits())
	if e != 0 || n.Bits() != m.Bits() || !m.Open() && !slices.Equal(n.Spaces(), m.Spaces()) {
		t.Fatal("from bits")
	}
}
