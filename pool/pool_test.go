package pool

import (
	"math/rand"
	"strings"
	"testing"

	"wattle/api"
	"wattle/blockdev"
	"wattle/extent"
)

func space(t *testing.T, frames int) *Space {
	t.Helper()
	d, _ := blockdev.New(blockdev.Geometry{Blocks: 16, Sectors: 1})
	m, _ := extent.New(0, 16)
	s, e := New(d, frames, m)
	if e != api.OK {
		t.Fatal(e)
	}
	return s
}

func text(c string) string { return strings.Repeat(c, 512) }

func reads(t *testing.T, s *Space, no int, want string) {
	t.Helper()
	if got, e := s.Read(no); got != want || e != api.OK {
		t.Errorf("the block %d: %.3q, %v", no, got, e)
	}
}

// P10.1 to P10.4: the chapter's examples.
func TestExamples(t *testing.T) {
	s := space(t, 2)
	a, b := text("a"), text("b")
	if s.Size() != 512 || s.Device() == nil || s.Map() == nil || s.Stats() != (Stats{Frames: 2}) {
		t.Error("new")
	}
	if s.Write(3, a) != 0 {
		t.Error("Write")
	}
	reads(t, s, 3, a)
	reads(t, s, 4, text("\x00"))
	if s.Stats() != (Stats{2, 1, 2, 0, 2, 0, 0}) {
		t.Error(s.Stats())
	}
	reads(t, s, 5, text("\x00"))
	if x, _ := s.Device().Read(3); x != text("\x00") {
		t.Error("written too early")
	}
	if s.Flush() != 0 || s.Device().Calls() != 2 || s.Stats().Written != 1 {
		t.Error("Flush")
	}
	if x, _ := s.Device().Read(3); x != a {
		t.Error("not written")
	}
	if s.Flush() != 0 || s.Device().Calls() != 3 {
		t.Error("a flush of nothing")
	}
	if s.Pin(3) != 0 || s.Pin(5) != 0 || s.Pin(6) != api.ErrMemory || s.Set(3, b) != 0 || s.Set(3, "b") != api.ErrArg || s.Set(6, "") != api.ErrState || s.Unpin(5) != 0 || s.Pin(6) != 0 {
		t.Error("pins")
	}
	if x, e := s.Text(3); x != b || e != 0 {
		t.Error("Text")
	}
	if c := s.Stats(); c.Pinned != 2 || c.Most != 2 || c.Held != 2 {
		t.Error(c)
	}
	if s.Pin(3) != 0 || s.Unpin(3) != 0 || s.Stats().Pinned != 2 {
		t.Error("two pins of one page")
	}
	if _, e := s.Text(7); e != api.ErrState || s.Drop(api.Extent{Start: 3, Len: 1}) != api.ErrState || s.Unpin(7) != api.ErrState {
		t.Error("pages that are none, or pinned")
	}
	if s.Unpin(6) != 0 || s.Drop(api.Extent{Start: 2, Len: 2}) != api.ErrState || s.Unpin(3) != 0 || s.Drop(api.Extent{Start: 2, Len: 2}) != 0 || s.Stats().Held != 1 {
		t.Error("Drop")
	}
	reads(t, s, 3, a)
}

// P10.3: extents.
func TestExtents(t *testing.T) {
	s := space(t, 4)
	x, e := s.Take(3)
	if x != (api.Extent{Start: 0, Len: 3}) || e != 0 {
		t.Error("Take")
	}
	if _, e := s.Take(14); e != api.ErrFull {
		t.Error("too many")
	}
	if _, e := s.Take(0); e != api.ErrArg {
		t.Error("none")
	}
	s.Write(1, text("a"))
	s.Pin(2)
	if s.Give(x) != api.ErrState || s.Map().Room() != 13 || s.Unpin(2) != 0 || s.Give(x) != 0 || s.Map().Room() != 16 || s.Stats().Held != 0 {
		t.Error("Give")
	}
	s.Write(1, text("a"))
	if s.Give(x) != api.ErrArg || s.Stats().Held != 0 {
		t.Error("what Free refuses is dropped")
	}
	for _, x := range []api.Extent{{Start: 0, Len: 0}, {Start: -1, Len: 2}, {Start: 15, Len: 2}, {Start: 1 << 62, Len: 1}, {Start: 1, Len: 1 << 62}} {
		if s.Drop(x) != api.ErrArg || s.Give(x) != api.ErrArg {
			t.Errorf("%v", x)
		}
	}
}

// The errors of all calls: wrong arguments, nil spaces, devices that are down.
func TestRefused(t *testing.T) {
	d, _ := blockdev.New(blockdev.Geometry{Blocks: 16, Sectors: 1})
	m, _ := extent.New(0, 16)
	for _, x := range []struct {
		d    *blockdev.Device
		n    int
		m    *extent.Map
		want api.Errno
	}{{nil, 0, m, api.ErrNil}, {d, 0, nil, api.ErrNil}, {d, 0, m, api.ErrArg}, {d, MaxFrames + 1, m, api.ErrArg}, {d, MaxFrames, m, 0}} {
		if s, e := New(x.d, x.n, x.m); e != x.want || (s == nil) != (e != 0) {
			t.Errorf("New: %v", e)
		}
	}
	for _, s := range []*Space{nil, {}} {
		_, e := s.Read(0)
		_, f := s.Text(0)
		_, g := s.Take(0)
		for i, e := range []api.Errno{e, f, g, s.Pin(0), s.Set(0, ""), s.Unpin(0), s.Write(0, ""), s.Flush(), s.Drop(api.Extent{}), s.Give(api.Extent{})} {
			if e != api.ErrNil {
				t.Errorf("call %d of a nil space: %v", i, e)
			}
		}
		if s.Size() != 0 || s.Device() != nil || s.Map() != nil || s.Stats() != (Stats{}) {
			t.Error("noughts")
		}
	}
	s := space(t, 2)
	for _, no := range []int{-1, 16} {
		if _, e := s.Read(no); e != api.ErrArg || s.Pin(no) != api.ErrArg || s.Write(no, text("a")) != api.ErrArg || s.Write(1, "a") != api.ErrArg {
			t.Errorf("the block %d", no)
		}
	}
	if s.Stats().Misses != 0 {
		t.Error("refused calls are counted")
	}
	s.Pin(1)
	s.Device().Pull(blockdev.Crash{})
	if _, e := s.Text(1); e != api.OK {
		t.Error("a page that is pinned, ahead of the first ErrDown")
	}
	if _, e := s.Read(99); e != api.ErrDown {
		t.Error("down")
	}
	s.Device().Restart()
	_, e := s.Read(1)
	_, f := s.Text(1)
	for i, e := range []api.Errno{e, f, s.Pin(1), s.Set(1, ""), s.Unpin(1), s.Write(1, ""), s.Flush(), s.Drop(api.Extent{}), s.Give(api.Extent{})} {
		if e != api.ErrDown {
			t.Errorf("call %d of a dead space: %v", i, e)
		}
	}
}

// A page that goes is written, and the device may go down at it.
func TestDown(t *testing.T) {
	s := space(t, 1)
	s.Write(1, text("a"))
	s.Device().Plan(1, blockdev.Crash{Torn: -1})
	if _, e := s.Read(2); e != api.ErrDown {
		t.Error("down at a page that goes")
	}
	s.Device().Restart()
	if s.Flush() != api.ErrDown {
		t.Error("dead")
	}
	s = space(t, 1)
	s.Device().Plan(1, blockdev.Crash{Torn: -1})
	if s.Flush() != api.ErrDown || s.Flush() != api.ErrDown {
		t.Error("down at a flush")
	}
}

// P10.5, P10.6: whatever the frames, what was written is read; behind a flush it is safe.
func TestModel(t *testing.T) {
	rnd := rand.New(rand.NewSource(1))
	for range 100 {
		few, many := space(t, 1+rnd.Intn(4)), space(t, 16)
		want := map[int]string{}
		flushed := map[int]string{}
		for range 200 {
			no := rnd.Intn(16)
			switch r := rnd.Intn(10); {
			case r < 4:
				x := text(string(rune('a' + rnd.Intn(26))))
				if few.Write(no, x) != 0 || many.Write(no, x) != 0 {
					t.Fatal("Write")
				}
				want[no] = x
			case r < 5:
				before := few.Stats().Written
				if few.Flush() != 0 || many.Flush() != 0 {
					t.Fatal("Flush")
				}
				flushed = map[int]string{}
				for k, v := range want {
					flushed[k] = v
					if x, _ := few.Device().Read(k); x != v {
						t.Fatal("not on the device")
					}
				}
				if few.Device().Unflushed() != 0 || few.Stats().Written < before {
					t.Fatal("not safe")
				}
			case r < 6:
				if few.Pin(no) != 0 || few.Pin(no) != 0 {
					t.Fatal("Pin")
				}
				if x, _ := few.Text(no); x != want[no] && want[no] != "" {
					t.Fatal("Text")
				}
				few.Unpin(no)
				few.Unpin(no)
			default:
				x, e := few.Read(no)
				y, f := many.Read(no)
				if x != y || e != f || want[no] != "" && x != want[no] {
					t.Fatalf("the block %d", no)
				}
			}
			if c := few.Stats(); c.Held > c.Frames || c.Pinned != 0 || c.Most > 1 {
				t.Fatal(c)
			}
		}
		few.Device().Pull(blockdev.Crash{Torn: -1})
		img := few.Device().Image()
		for no, x := range flushed {
			if want[no] == x && img[no] != x {
				t.Fatal("what was flushed is gone")
			}
		}
	}
}
