package sorter

import (
	"math/rand"
	"slices"
	"strings"
	"testing"

	"wattle/api"
	"wattle/blockdev"
	"wattle/extent"
	"wattle/num"
	"wattle/pool"
)

func space(t *testing.T, blocks, frames int) *pool.Space {
	t.Helper()
	d, _ := blockdev.New(blockdev.Geometry{Blocks: blocks, Sectors: 1})
	m, _ := extent.New(0, blocks)
	s, e := pool.New(d, frames, m)
	if e != api.OK {
		t.Fatal(e)
	}
	return s
}

func made(t *testing.T, s *pool.Space, width, budget int, unique bool) *Sorter {
	t.Helper()
	x, e := New(s, width, budget, unique)
	if e != api.OK {
		t.Fatal(e)
	}
	return x
}

func all(t *testing.T, x *Sorter) []string {
	t.Helper()
	var l []string
	for {
		r, e := x.Next()
		if e == api.ErrNone {
			return l
		}
		if e != api.OK {
			t.Fatal(e)
		}
		l = append(l, r)
	}
}

// P17.1, P17.2, P17.3: the chapter's examples.
func TestExamples(t *testing.T) {
	s := space(t, 64, 4)
	for i, c := range []struct{ n, runs, passes int }{{0, 0, 0}, {384, 0, 0}, {385, 2, 0}, {768, 2, 0}, {1000, 3, 1}, {384 * 5, 5, 2}} {
		x := made(t, s, 4, 1536, false)
		for i := range c.n {
			if e := x.Add(num.Text(uint64(c.n-i), 4)); e != 0 {
				t.Fatal(e)
			}
		}
		if _, e := x.Next(); e != api.ErrState || x.Rewind() != api.ErrState || x.Passes() != 0 {
			t.Error("Next ahead of Sort")
		}
		if e := x.Sort(); e != 0 || x.Runs() != c.runs || x.Passes() != c.passes || i > 0 && x.Peak() != 1536 {
			t.Errorf("%d records: %v, %d runs, %d passes, %d bytes", c.n, e, x.Runs(), x.Passes(), x.Peak())
		}
		if x.Add("abcd") != api.ErrState || x.Sort() != api.ErrState {
			t.Error("sorted")
		}
		l := all(t, x)
		if len(l) != c.n || !slices.IsSorted(l) {
			t.Errorf("%d records", len(l))
		}
		if _, e := x.Next(); e != api.ErrNone {
			t.Error("behind the last")
		}
		if x.Close() != 0 || x.Close() != api.ErrDone || x.Add("") != api.ErrDone || x.Sort() != api.ErrDone || x.Rewind() != api.ErrDone || s.Map().Room() != 64 {
			t.Error("Close")
		}
		if _, e := x.Next(); e != api.ErrDone {
			t.Error("closed")
		}
	}
}

// The errors of New and Add, and of nil sorters.
func TestRefused(t *testing.T) {
	s := space(t, 64, 4)
	for _, c := range []struct {
		s             *pool.Space
		width, budget int
		want          api.Errno
	}{{s, 4, 1535, api.ErrMemory}, {nil, 4, 1536, api.ErrNil}, {s, 65, 1536, api.ErrArg}, {s, 0, 1536, api.ErrArg}, {s, 4, -1, api.ErrArg}, {s, 4, MaxBudget + 1, api.ErrArg}, {s, 4, 0, api.ErrMemory}, {s, 64, MaxBudget, 0}, {&pool.Space{}, 0, 0, api.ErrNil}} {
		if x, e := New(c.s, c.width, c.budget, false); e != c.want || (x == nil) != (e != 0) {
			t.Errorf("%d, %d: %v", c.width, c.budget, e)
		}
	}
	x := made(t, s, 1, 1536, false)
	if x.Add("") != api.ErrArg || x.Add("ab") != api.ErrArg {
		t.Error("widths")
	}
	x.count = MaxRecords - 1
	if x.Add("a") != 0 || x.Add("b") != api.ErrOver || x.Add("") != api.ErrArg {
		t.Error("too many")
	}
	if x.Sort() != 0 || !slices.Equal(all(t, x), []string{"a"}) {
		t.Error("what was refused changes nothing")
	}
	for _, x := range []*Sorter{nil, {}} {
		if _, e := x.Next(); e != api.ErrNil || x.Add("") != api.ErrNil || x.Sort() != api.ErrNil || x.Rewind() != api.ErrNil || x.Close() != api.ErrNil || x.Runs()+x.Passes()+x.Peak() != 0 {
			t.Error("a nil sorter")
		}
	}
}

// P17.4: in order, whatever the budget; and again behind Rewind; once each of a unique one.
func TestOrder(t *testing.T) {
	rnd := rand.New(rand.NewSource(1))
	for range 60 {
		s := space(t, 600, 1+rnd.Intn(5))
		width, budget := 1+rnd.Intn(64), 1536+rnd.Intn(3000)
		unique := rnd.Intn(2) == 0
		x := made(t, s, width, budget, unique)
		var want []string
		for range rnd.Intn(3000) {
			b := make([]byte, width)
			for i := range b {
				b[i] = byte(rnd.Intn(3))
			}
			if e := x.Add(string(b)); e != 0 {
				t.Fatal(e)
			}
			want = append(want, string(b))
		}
		slices.Sort(want)
		if unique {
			want = slices.Compact(want)
		}
		if e := x.Sort(); e != 0 {
			t.Fatal(e)
		}
		x.Next()
		for range 2 {
			if x.Rewind() != 0 || !slices.Equal(all(t, x), want) {
				t.Fatal("other records")
			}
		}
		if x.Peak() > budget || s.Stats().Most > 0 {
			t.Fatalf("%d bytes of %d", x.Peak(), budget)
		}
		if x.Close() != 0 || s.Map().Room() != 600 {
			t.Fatal("not all is given back")
		}
	}
}

// P17.5: what was refused is given back, too.
func TestGivenBack(t *testing.T) {
	for room := range 40 {
		s := space(t, 40, 2)
		s.Take(40 - room)
		x := made(t, s, 8, 1536, false)
		e := api.OK
		for i := 0; i < 192*8 && e == api.OK; i++ {
			e = x.Add(num.Text(uint64(i*7919%4096), 8))
		}
		if e == api.OK {
			e = x.Sort()
		}
		if e == api.OK {
			if room < 24 || len(all(t, x)) != 192*8 {
				t.Errorf("room %d", room)
			}
		} else if e != api.ErrFull || x.Add("12345678") != api.ErrState || x.Sort() != api.ErrState || x.Rewind() != api.ErrState {
			t.Errorf("room %d: %v", room, e)
		}
		if x.Close() != 0 || s.Map().Room() != room {
			t.Errorf("room %d: %d", room, s.Map().Room())
		}
	}
	for at := 1; at < 30; at++ {
		s := space(t, 64, 2)
		s.Device().Plan(at, blockdev.Crash{})
		x := made(t, s, 8, 1536, false)
		e := api.OK
		for i := 0; i < 1000 && e == api.OK; i++ {
			e = x.Add(strings.Repeat(string(rune('a'+i%26)), 8))
		}
		if e == api.OK {
			e = x.Sort()
		}
		if s.Device().Down() != (e == api.ErrDown) {
			t.Errorf("down at %d: %v", at, e)
		}
		if e != api.OK && (x.Close() != api.ErrDown || x.Add("12345678") != api.ErrState) {
			t.Error("closed on a device that is down")
		}
	}
	s := space(t, 64, 1)
	x := made(t, s, 8, 1536, false)
	for i := range 192 {
		x.Add(num.Text(uint64(i), 8))
	}
	s.Pin(60)
	if x.Add("12345678") != api.ErrMemory || x.Add("12345678") != api.ErrState {
		t.Error("no frame")
	}
	if s.Unpin(60) != 0 || x.Close() != 0 || s.Map().Room() != 64 {
		t.Error("given back behind it")
	}
}
