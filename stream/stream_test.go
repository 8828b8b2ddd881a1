package stream

import (
	"math/rand"
	"strings"
	"testing"

	"wattle/api"
	"wattle/blockdev"
	"wattle/extent"
	"wattle/num"
	"wattle/pool"
	"wattle/sums"
)

func space(t *testing.T, frames int) *pool.Space {
	t.Helper()
	d, _ := blockdev.New(blockdev.Geometry{Blocks: 20, Sectors: 1})
	m, _ := extent.New(0, 20)
	s, e := pool.New(d, frames, m)
	if e != api.OK {
		t.Fatal(e)
	}
	return s
}

func created(t *testing.T, s *pool.Space, start, n int) *Writer {
	t.Helper()
	w, e := Create(s, api.Extent{Start: start, Len: n})
	if e != api.OK {
		t.Fatal(e)
	}
	return w
}

// P11.1, P11.5: how many blocks bytes need.
func TestBlocks(t *testing.T) {
	for _, x := range []struct {
		size, n, want int
		e             api.Errno
	}{{512, 0, 1, 0}, {512, 500, 1, 0}, {512, 501, 2, 0}, {1024, 1012, 1, 0}, {1024, 1013, 2, 0}, {100, 1, 0, api.ErrArg}, {0, 1, 0, api.ErrArg}, {513, 1, 0, api.ErrArg}, {4608, 1, 0, api.ErrArg}, {-512, 1, 0, api.ErrArg}, {512, -1, 0, api.ErrArg}, {512, 4096*512 - 12, 4096, 0}, {512, 4096*512 - 11, 0, api.ErrArg}, {4096, 1<<63 - 1, 0, api.ErrArg}} {
		if n, e := Blocks(x.size, x.n); n != x.want || e != x.e {
			t.Errorf("Blocks(%d, %d): %d, %v", x.size, x.n, n, e)
		}
	}
}

// P11.1 to P11.3: the chapter's examples.
func TestExamples(t *testing.T) {
	s := space(t, 4)
	w := created(t, s, 4, 2)
	if w.Room() != 1012 || s.Stats().Misses != 0 || w.Write(strings.Repeat("a", 600)) != 0 || w.Room() != 412 || w.Write(strings.Repeat("a", 413)) != api.ErrFull || w.Write(strings.Repeat("b", 412)) != 0 || s.Stats().Misses != 1 || w.Close() != 0 {
		t.Error("writes")
	}
	if w.Close() != api.ErrDone || w.Write("") != api.ErrDone || w.Room() != 0 {
		t.Error("closed")
	}
	r, e := Open(s, api.Extent{Start: 4, Len: 2})
	if e != 0 || r.Length() != 1012 || r.Verify() != 0 {
		t.Error("Open")
	}
	for _, x := range []struct {
		off, n int
		want   string
		e      api.Errno
	}{{599, 2, "ab", 0}, {510, 4, "aaaa", 0}, {1012, 1, "", api.ErrArg}, {1012, 0, "", 0}, {-1, 1, "", api.ErrArg}, {0, -1, "", api.ErrArg}, {1 << 62, 1 << 62, "", api.ErrArg}, {1013, 0, "", api.ErrArg}} {
		if got, e := r.ReadAt(x.off, x.n); got != x.want || e != x.e {
			t.Errorf("ReadAt(%d, %d): %q, %v", x.off, x.n, got, e)
		}
	}
	last, _ := s.Read(5)
	sum := sums.Crc(strings.Repeat("a", 600) + strings.Repeat("b", 412))
	if last[500:] != num.Text(1012, 8)+num.Text(uint64(sum), 4) {
		t.Error("the foot")
	}
}

// P11.1, P11.2: which blocks are written, and when.
func TestWritten(t *testing.T) {
	s := space(t, 8)
	w := created(t, s, 2, 5)
	steps := []struct{ n, misses int }{{511, 0}, {1, 1}, {0, 1}, {1024, 3}, {300, 3}}
	for _, x := range steps {
		if e := w.Write(strings.Repeat("x", x.n)); e != 0 || s.Stats().Misses != x.misses {
			t.Errorf("%d bytes: %v, %d", x.n, e, s.Stats().Misses)
		}
	}
	if w.Close() != 0 || s.Stats().Misses != 5 {
		t.Errorf("Close: %v", s.Stats())
	}
	if text, _ := s.Read(5); text != strings.Repeat("x", 300)+strings.Repeat("\x00", 212) {
		t.Error("the block that is not full")
	}
	s = space(t, 8)
	if w = created(t, s, 2, 5); w.Close() != 0 || s.Stats().Misses != 1 {
		t.Error("no bytes: the last block alone")
	}
	before := s.Stats()
	r, _ := Open(s, api.Extent{Start: 2, Len: 5})
	if x, e := r.ReadAt(0, 0); x != "" || e != 0 || r.Verify() != 0 || s.Stats().Hits != before.Hits+1 {
		t.Error("an empty stream reads its last block alone")
	}
}

// The errors of all calls.
func TestRefused(t *testing.T) {
	s := space(t, 2)
	for _, x := range []api.Extent{{}, {Start: -1, Len: 2}, {Start: 19, Len: 2}, {Start: 3, Len: 1 << 62}, {Start: 1 << 62, Len: 1}} {
		w, e := Create(s, x)
		r, f := Open(s, x)
		if w != nil || r != nil || e != api.ErrArg || f != api.ErrArg {
			t.Errorf("%v: %v, %v", x, e, f)
		}
	}
	for _, s := range []*pool.Space{nil, {}} {
		w, e := Create(s, api.Extent{})
		r, f := Open(s, api.Extent{})
		if w != nil || r != nil || e != api.ErrNil || f != api.ErrNil {
			t.Error("no space")
		}
	}
	for _, w := range []*Writer{nil, {}} {
		if w.Room() != 0 || w.Write("") != api.ErrNil || w.Close() != api.ErrNil {
			t.Error("a nil writer")
		}
	}
	for _, r := range []*Reader{nil, {}} {
		if x, e := r.ReadAt(-1, 0); x != "" || e != api.ErrNil || r.Length() != 0 || r.Verify() != api.ErrNil {
			t.Error("a nil reader")
		}
	}
	s.Write(7, strings.Repeat("\xff", 512))
	if r, e := Open(s, api.Extent{Start: 7, Len: 1}); r != nil || e != api.ErrCorrupt {
		t.Error("no foot")
	}
	s.Write(7, strings.Repeat("\x00", 500)+num.Text(501, 8)+num.Text(0, 4))
	if _, e := Open(s, api.Extent{Start: 7, Len: 1}); e != api.ErrCorrupt {
		t.Error("a foot that says too many")
	}
	w := created(t, s, 0, 4)
	s.Pin(9)
	s.Pin(10)
	if w.Write(strings.Repeat("x", 600)) != api.ErrMemory || w.Write("") != api.ErrDone || w.Close() != api.ErrDone || w.Room() != 0 {
		t.Error("no frame")
	}
	s.Unpin(9)
	w = created(t, s, 0, 1)
	r, _ := Open(s, api.Extent{Start: 15, Len: 1})
	s.Device().Pull(blockdev.Crash{})
	if w.Close() != api.ErrDown || w.Close() != api.ErrDone || w.Room() != 0 {
		t.Error("down")
	}
	if _, e := Open(s, api.Extent{Start: 7, Len: 1}); e != api.ErrDown || r.Verify() != api.OK {
		t.Error("open of a device that is down")
	}
}

// P11.4, P11.5: back, whatever the pieces; a byte that is another one is told.
func TestBack(t *testing.T) {
	rnd := rand.New(rand.NewSource(1))
	for range 150 {
		s := space(t, 1+rnd.Intn(3))
		n := rnd.Intn(4000)
		blocks, _ := Blocks(512, n)
		x := api.Extent{Start: rnd.Intn(20 - blocks), Len: blocks + rnd.Intn(2)}
		if blocks > 1 {
			if w := created(t, s, x.Start, blocks-1); w.Room() >= n {
				t.Fatalf("%d bytes fit into a block less", n)
			}
		}
		b := make([]byte, n)
		rnd.Read(b)
		w := created(t, s, x.Start, x.Len)
		for at := 0; at < n; {
			k := min(n-at, rnd.Intn(1200))
			if e := w.Write(string(b[at : at+k])); e != 0 {
				t.Fatal(e)
			}
			at += k
		}
		if w.Close() != 0 || s.Flush() != 0 {
			t.Fatal("Close")
		}
		m, _ := extent.New(0, 20)
		other, _ := pool.New(s.Device(), 1, m)
		for _, s := range []*pool.Space{s, other} {
			r, e := Open(s, x)
			if e != 0 || r.Length() != n || r.Verify() != 0 {
				t.Fatalf("Open: %v", e)
			}
			off := rnd.Intn(n + 1)
			k := rnd.Intn(n - off + 1)
			if got, e := r.ReadAt(off, k); got != string(b[off:off+k]) || e != 0 {
				t.Fatalf("ReadAt(%d, %d)", off, k)
			}
			if st := s.Stats(); st.Most > 0 {
				t.Fatal("pinned")
			}
		}
		if n == 0 {
			continue
		}
		at := rnd.Intn(n)
		s.Device().Corrupt(x.Start+at/512, at%512, string([]byte{b[at] ^ byte(1+rnd.Intn(255))}))
		m, _ = extent.New(0, 20)
		other, _ = pool.New(s.Device(), 2, m)
		if r, e := Open(other, x); e != 0 || r.Verify() != api.ErrCorrupt {
			t.Fatal("not told")
		}
	}
}
