package vector

import (
	"math/rand"
	"strings"
	"testing"

	"wattle/api"
	"wattle/blockdev"
	"wattle/extent"
	"wattle/num"
	"wattle/pool"
)

func space(t *testing.T, blocks, frames int) *pool.Space {
	t.Helper()
	d, _ := blockdev.New(blockdev.Geometry{Blocks: blocks, Sectors: 1})
	m, _ := extent.New(0, blocks)
	s, e := pool.New(d, frames, m)
	if e != api.OK {
		t.Fatal(e)
	}
	return s
}

func made(t *testing.T, s *pool.Space, n, width int) *Vector {
	t.Helper()
	v, e := New(s, n, width)
	if e != api.OK {
		t.Fatal(e)
	}
	return v
}

// P21.1, P21.2: the chapter's examples.
func TestExamples(t *testing.T) {
	s := space(t, 20, 2)
	v := made(t, s, 300, 2)
	if v.Len() != 300 || v.Width() != 2 || s.Map().Room() != 18 {
		t.Error("New")
	}
	if x, e := v.Get(299); x != 0 || e != 0 {
		t.Error("a nought")
	}
	if v.Set(299, 65535) != 0 || v.Set(299, 65536) != api.ErrArg || v.Set(300, 1) != api.ErrArg || v.Set(-1, 1) != api.ErrArg || v.Fill(65536) != api.ErrArg {
		t.Error("Set")
	}
	if x, e := v.Get(299); x != 65535 || e != 0 {
		t.Error("Get")
	}
	text, e := v.Save()
	if e != 0 || len(text) != 600 || text[598:] != "\xff\xff" || strings.Trim(text[:598], "\x00") != "" {
		t.Error("Save")
	}
	if v.Fill(7) != 0 || v.Load(text[1:]) != api.ErrForm || v.Load(text+"x") != api.ErrForm {
		t.Error("Fill")
	}
	for _, i := range []int{-1, 300} {
		if _, e := v.Get(i); e != api.ErrArg {
			t.Errorf("Get(%d): %v", i, e)
		}
	}
	if x, _ := v.Get(0); x != 7 {
		t.Error("7")
	}
	if v.Load(text) != 0 {
		t.Error("Load")
	}
	if x, _ := v.Get(299); x != 65535 {
		t.Error("loaded")
	}
	if v.Close() != 0 || v.Close() != api.ErrDone || v.Set(0, 0) != api.ErrDone || v.Fill(0) != api.ErrDone || v.Load("") != api.ErrDone || v.Len() != 300 || v.Width() != 2 || s.Map().Room() != 20 {
		t.Error("Close")
	}
	_, e = v.Get(0)
	_, f := v.Save()
	if e != api.ErrDone || f != api.ErrDone {
		t.Error("closed")
	}
}

// The errors of New, and of nil vectors.
func TestRefused(t *testing.T) {
	s := space(t, 20, 2)
	for _, c := range []struct {
		s        *pool.Space
		n, width int
		want     api.Errno
	}{{nil, -1, 2, api.ErrNil}, {&pool.Space{}, 1, 2, api.ErrNil}, {s, -1, 2, api.ErrArg}, {s, 1, 3, api.ErrArg}, {s, 1, 0, api.ErrArg}, {s, 1, 16, api.ErrArg}, {s, MaxLen + 1, 1, api.ErrArg}, {s, MaxLen, 8, api.ErrFull}, {s, 20 * 64, 8, 0}, {s, 0, 8, api.ErrFull}} {
		if v, e := New(c.s, c.n, c.width); e != c.want || (v == nil) != (e != 0) {
			t.Errorf("%d of %d: %v", c.n, c.width, e)
		}
	}
	for _, v := range []*Vector{nil, {}} {
		_, e := v.Get(-1)
		_, f := v.Save()
		if e != api.ErrNil || f != api.ErrNil || v.Set(-1, 0) != api.ErrNil || v.Fill(0) != api.ErrNil || v.Load("") != api.ErrNil || v.Close() != api.ErrNil || v.Len()+v.Width() != 0 {
			t.Error("a nil vector")
		}
	}
}

// No frame, and a device that is down: nothing changes by what is refused.
func TestNoFrame(t *testing.T) {
	s := space(t, 20, 2)
	v := made(t, s, 1000, 1)
	s.Pin(19)
	s.Pin(0)
	if v.Fill(1) != api.ErrMemory || v.Load(strings.Repeat("\x02", 1000)) != api.ErrMemory || v.Set(999, 1) != api.ErrMemory {
		t.Error("no frame")
	}
	if w, e := New(s, 1, 1); w != nil || e != api.ErrMemory || s.Map().Room() != 18 {
		t.Error("what New took")
	}
	if v.Close() != api.ErrState || s.Unpin(0) != 0 {
		t.Error("a page of it is pinned")
	}
	if text, e := v.Save(); strings.Trim(text, "\x00") != "" || e != 0 {
		t.Error("changed")
	}
	if s.Unpin(19) != 0 || v.Close() != 0 || s.Map().Room() != 20 {
		t.Error("Close")
	}
	v = made(t, s, 10, 8)
	s.Device().Pull(blockdev.Crash{})
	if _, e := v.Get(0); e != api.ErrDown || v.Set(0, 1) != api.ErrDown || v.Fill(0) != api.ErrDown || v.Close() != api.ErrDown {
		t.Error("down")
	}
}

// P21.3, P21.4: as a list, beside others, whatever the frames.
func TestAsList(t *testing.T) {
	rnd := rand.New(rand.NewSource(1))
	for range 100 {
		s := space(t, 60, 1+rnd.Intn(4))
		var vectors []*Vector
		var want [][]uint64
		for range 4 {
			n, width := rnd.Intn(700), 1<<rnd.Intn(4)
			vectors = append(vectors, made(t, s, n, width))
			want = append(want, make([]uint64, n))
		}
		for range 300 {
			k := rnd.Intn(4)
			v, l := vectors[k], want[k]
			x := rnd.Uint64() >> (64 - 8*v.Width())
			switch r := rnd.Intn(40); {
			case r == 0:
				if v.Fill(x) != 0 {
					t.Fatal("Fill")
				}
				for i := range l {
					l[i] = x
				}
			case r == 1:
				text, e := v.Save()
				var b strings.Builder
				for _, x := range l {
					b.WriteString(num.Text(x, v.Width()))
				}
				if text != b.String() || e != 0 {
					t.Fatal("Save")
				}
				other := made(t, space(t, 60, 1), len(l), v.Width())
				if other.Load(text) != 0 {
					t.Fatal("Load")
				}
				if again, _ := other.Save(); again != text || v.Load(text) != 0 {
					t.Fatal("another space")
				}
			case len(l) == 0:
			case r < 20:
				i := rnd.Intn(len(l))
				if v.Set(i, x) != 0 {
					t.Fatal("Set")
				}
				l[i] = x
			default:
				i := rnd.Intn(len(l))
				if x, e := v.Get(i); x != l[i] || e != 0 {
					t.Fatal("Get")
				}
			}
			if s.Stats().Most > 0 {
				t.Fatal("pinned")
			}
		}
		for _, v := range vectors {
			v.Close()
		}
		if s.Map().Room() != 60 {
			t.Fatal("the map")
		}
	}
}
