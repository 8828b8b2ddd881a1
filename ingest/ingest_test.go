package ingest

import (
	"math/rand"
	"slices"
	"testing"

	"wattle/api"
	"wattle/blockdev"
	"wattle/bv"
	"wattle/edges"
	"wattle/extent"
	"wattle/pack"
	"wattle/pool"
	"wattle/sorter"
	"wattle/stream"
)

func space(t *testing.T, blocks, frames int) *pool.Space {
	t.Helper()
	d, _ := blockdev.New(blockdev.Geometry{Blocks: blocks, Sectors: 1})
	m, _ := extent.New(0, blocks)
	s, e := pool.New(d, frames, m)
	if e != api.OK {
		t.Fatal(e)
	}
	return s
}

func content(t *testing.T, s *pool.Space, b Built) string {
	t.Helper()
	r, e := stream.Open(s, b.X)
	if e != api.OK || r.Verify() != api.OK || r.Length() != b.Bytes {
		t.Fatal(e)
	}
	text, _ := r.ReadAt(0, r.Length())
	return text
}

// sorted is a sorter that has the records.
func sorted(t *testing.T, s *pool.Space, width int, unique bool, l ...string) *sorter.Sorter {
	t.Helper()
	x, _ := sorter.New(s, width, 1536, unique)
	for _, r := range l {
		if e := x.Add(r); e != api.OK {
			t.Fatal(e)
		}
	}
	x.Sort()
	return x
}

func rec(from, to uint32) string { return Record(api.Edge{From: from, To: to}) }

// P19.1: records.
func TestRecord(t *testing.T) {
	r := rec(1, 1<<32-1)
	if r != "\x00\x00\x00\x01\xff\xff\xff\xff" {
		t.Errorf("%x", r)
	}
	if x, e := Edge(r); x != (api.Edge{From: 1, To: 1<<32 - 1}) || e != 0 {
		t.Error("Edge")
	}
	for _, s := range []string{"", "1234567", "123456789"} {
		if x, e := Edge(s); x != (api.Edge{}) || e != api.ErrArg {
			t.Errorf("%q: %v", s, e)
		}
	}
}

// P19.2: what a sorter tells.
func TestPack(t *testing.T) {
	s := space(t, 40, 2)
	x := sorted(t, s, 8, true, rec(3, 0), rec(0, 2), rec(0, 1), rec(0, 1))
	b, e := Pack(s, 4, x, bv.Usual())
	if e != 0 || b.N != 4 || b.M != 3 || b.X.Len != 1 || s.Map().Room() != 39 {
		t.Fatal(b, e)
	}
	want, _ := pack.Build(api.Graph{{1, 2}, {}, {}, {0}}, bv.Usual())
	if content(t, s, b) != want {
		t.Error("another file")
	}
	if again, e := Pack(s, 4, x, bv.Usual()); e != 0 || content(t, s, again) != want {
		t.Error("the sorter stays")
	}
	unsorted, _ := sorter.New(s, 8, 1536, false)
	for i, c := range []struct {
		s    *pool.Space
		n    int
		x    *sorter.Sorter
		p    bv.Params
		want api.Errno
	}{
		{nil, 4, x, bv.Usual(), api.ErrNil}, {s, -1, nil, bv.Usual(), api.ErrNil}, {s, -1, x, bv.Usual(), api.ErrArg}, {s, api.MaxVertices + 1, x, bv.Usual(), api.ErrArg}, {s, 4, x, bv.Params{}, api.ErrArg},
		{s, 4, unsorted, bv.Usual(), api.ErrState}, {s, 3, x, bv.Usual(), api.ErrArg}, {s, 0, x, bv.Usual(), api.ErrArg}, {s, 3, sorted(t, s, 8, true, rec(0, 3)), bv.Usual(), api.ErrArg},
		{s, 4, sorted(t, s, 8, false, rec(0, 1), rec(0, 1)), bv.Usual(), api.ErrArg}, {s, 4, sorted(t, s, 7, false, "1234567"), bv.Usual(), api.ErrArg}, {&pool.Space{}, 4, x, bv.Usual(), api.ErrNil},
	} {
		if b, e := Pack(c.s, c.n, c.x, c.p); b != (Built{}) || e != c.want || s.Map().Room() != 38 {
			t.Errorf("call %d: %v, %v", i, b, e)
		}
	}
	if b, e := Pack(s, 0, sorted(t, s, 8, true), bv.Usual()); e != 0 || b.Bytes != 45 {
		t.Errorf("no vertices: %v, %v", b, e)
	}
}

// P19.3: the chapter's examples, and the errors in their order.
func TestImport(t *testing.T) {
	s := space(t, 40, 2)
	b, line, e := Import(s, 4, "0 1\n0 2\n0 1\n3 0\n", bv.Usual(), 1536)
	if e != 0 || line != 0 || b.X.Len != 1 || b.N != 4 || b.M != 3 {
		t.Error(b, line, e)
	}
	long := make([]byte, api.MaxText+1)
	for i, c := range []struct {
		s      *pool.Space
		n      int
		text   string
		p      bv.Params
		budget int
		line   int
		want   api.Errno
	}{
		{s, 4, "0 1\n0 4\n", bv.Usual(), 1536, 2, api.ErrEdge}, {s, 4, "", bv.Usual(), 1535, 0, api.ErrMemory}, {nil, -1, "", bv.Usual(), 1536, 0, api.ErrNil}, {s, -1, "", bv.Usual(), 0, 0, api.ErrArg},
		{s, 65537, "", bv.Usual(), 1536, 0, api.ErrArg}, {s, 4, string(long), bv.Usual(), 1536, 0, api.ErrArg}, {s, 4, "x", bv.Params{}, 1536, 0, api.ErrArg}, {s, 4, "x", bv.Usual(), -1, 0, api.ErrArg},
		{s, 4, "x", bv.Usual(), sorter.MaxBudget + 1, 0, api.ErrArg}, {s, 4, "x", bv.Usual(), 0, 0, api.ErrMemory},
	} {
		if b, line, e := Import(c.s, c.n, c.text, c.p, c.budget); b != (Built{}) || line != c.line || e != c.want || s.Map().Room() != 39 {
			t.Errorf("call %d: %v, %d, %v", i, b, line, e)
		}
	}
}

func someEdges(rnd *rand.Rand, n, most int) []api.Edge {
	var l []api.Edge
	for range rnd.Intn(most) {
		l = append(l, api.Edge{From: uint32(rnd.Intn(n)), To: uint32(rnd.Intn(1 + rnd.Intn(n)))})
	}
	return l
}

// P19.4, P19.5: pack.Build's file, whatever budget, frames, order; nothing else stays.
func TestSame(t *testing.T) {
	rnd := rand.New(rand.NewSource(1))
	for range 60 {
		n := 1 + rnd.Intn(200)
		l := someEdges(rnd, n, 1500)
		p := bv.Usual()
		if rnd.Intn(2) == 0 {
			p = bv.Params{Window: rnd.Intn(17), Depth: rnd.Intn(17), Interval: 2, Zeta: 1 + rnd.Intn(16), Cap: rnd.Intn(100)}
		}
		g, _ := edges.Group(n, l)
		want, _ := pack.Build(g, p)
		for range 2 {
			s := space(t, 200, 1+rnd.Intn(4))
			rnd.Shuffle(len(l), func(i, j int) { l[i], l[j] = l[j], l[i] })
			b, _, e := Import(s, n, edges.Show(append(slices.Clone(l), l[:len(l)/2]...)), p, 1536+rnd.Intn(9000))
			if e != 0 || content(t, s, b) != want {
				t.Fatalf("%v", e)
			}
			blocks, _ := stream.Blocks(512, len(want))
			if b.X.Len != blocks || s.Map().Room() != 200-blocks || s.Stats().Most > 1 {
				t.Fatal("what stays")
			}
		}
	}
}

// P19.5: refused for want of room, or by a device that goes down.
func TestNothingStays(t *testing.T) {
	rnd := rand.New(rand.NewSource(2))
	n := 100
	text := edges.Show(someEdges(rnd, n, 3000))
	for room := range 60 {
		s := space(t, 60, 2)
		s.Take(60 - room)
		b, _, e := Import(s, n, text, bv.Usual(), 1536)
		if e != 0 && e != api.ErrFull || s.Map().Room() != room-b.X.Len || e != 0 && b != (Built{}) {
			t.Errorf("room %d: %v, %v", room, b, e)
		}
	}
	for at := 1; at < 60; at++ {
		s := space(t, 100, 2)
		s.Device().Plan(at, blockdev.Crash{})
		b, _, e := Import(s, n, text, bv.Usual(), 1536)
		if s.Device().Down() != (e == api.ErrDown) || e != 0 && b != (Built{}) {
			t.Errorf("down at %d: %v", at, e)
		}
	}
}
