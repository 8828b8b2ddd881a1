package turn

import (
	"math/rand"
	"slices"
	"testing"

	"wattle/api"
	"wattle/blockdev"
	"wattle/bv"
	"wattle/edges"
	"wattle/ef"
	"wattle/extent"
	"wattle/ingest"
	"wattle/pack"
	"wattle/pool"
	"wattle/sorter"
	"wattle/stream"
	"wattle/walk"
)

func space(t *testing.T, blocks, frames int) *pool.Space {
	t.Helper()
	d, _ := blockdev.New(blockdev.Geometry{Blocks: blocks, Sectors: 1})
	m, _ := extent.New(0, blocks)
	s, e := pool.New(d, frames, m)
	if e != api.OK {
		t.Fatal(e)
	}
	return s
}

func same(a, b api.Graph) bool {
	return slices.EqualFunc(a, b, func(x, y []uint32) bool { return slices.Equal(x, y) })
}

// inSpace is a graph's file in a space.
func inSpace(t *testing.T, s *pool.Space, g api.Graph) *walk.Graph {
	t.Helper()
	var l []api.Edge
	for v, succ := range g {
		for _, w := range succ {
			l = append(l, api.Edge{From: uint32(v), To: w})
		}
	}
	b, _, e := ingest.Import(s, len(g), edges.Show(l), bv.Usual(), 4096)
	if e != api.OK {
		t.Fatal(e)
	}
	return walked(t, s, b)
}

func walked(t *testing.T, s *pool.Space, b ingest.Built) *walk.Graph {
	t.Helper()
	r, e := stream.Open(s, b.X)
	if e != api.OK || r.Length() != b.Bytes {
		t.Fatal(e)
	}
	g, e := walk.Open(r)
	if e != api.OK || g.Check() != api.OK || g.N() != b.N || g.M() != b.M {
		t.Fatal(e)
	}
	return g
}

func graph(g *walk.Graph) api.Graph {
	all := make(api.Graph, g.N())
	for v := range all {
		all[v], _ = g.List(v)
	}
	return all
}

// of is the graph that becomes of all edges.
func of(g api.Graph, both bool) api.Graph {
	var l []api.Edge
	for v, succ := range g {
		for _, w := range succ {
			if both && int(w) == v {
				continue
			}
			l = append(l, api.Edge{From: w, To: uint32(v)})
			if both {
				l = append(l, api.Edge{From: uint32(v), To: w})
			}
		}
	}
	h, _ := edges.Group(len(g), l)
	return h
}

// P20.1: the chapter's examples.
func TestExamples(t *testing.T) {
	s := space(t, 60, 3)
	g := inSpace(t, s, api.Graph{{1, 2}, {1}, {0}})
	b, e := Transpose(s, g, bv.Usual(), 1536)
	if e != 0 || !same(graph(walked(t, s, b)), api.Graph{{2}, {0, 1}, {0}}) {
		t.Errorf("Transpose: %v", e)
	}
	b, e = Symmetrise(s, g, bv.Usual(), 1536)
	if e != 0 || !same(graph(walked(t, s, b)), api.Graph{{1, 2}, {0}, {0}}) {
		t.Errorf("Symmetrise: %v", e)
	}
	room := s.Map().Room()
	for i, c := range []struct {
		s      *pool.Space
		g      *walk.Graph
		p      bv.Params
		budget int
		want   api.Errno
	}{
		{nil, g, bv.Params{}, -1, api.ErrNil}, {s, nil, bv.Params{}, -1, api.ErrNil}, {s, &walk.Graph{}, bv.Usual(), 1536, api.ErrNil}, {&pool.Space{}, g, bv.Usual(), 1536, api.ErrNil},
		{s, g, bv.Params{}, 1536, api.ErrArg}, {s, g, bv.Usual(), -1, api.ErrArg}, {s, g, bv.Usual(), sorter.MaxBudget + 1, api.ErrArg}, {s, g, bv.Usual(), 1024, api.ErrMemory},
	} {
		b, e := Transpose(c.s, c.g, c.p, c.budget)
		d, f := Symmetrise(c.s, c.g, c.p, c.budget)
		if e != c.want || f != c.want || b != d || b != (ingest.Built{}) || s.Map().Room() != room {
			t.Errorf("call %d: %v, %v", i, e, f)
		}
	}
}

func someGraph(rnd *rand.Rand) api.Graph {
	n := rnd.Intn(80)
	g := make(api.Graph, n)
	for v := range g {
		for range rnd.Intn(12) {
			g[v] = append(g[v], uint32(rnd.Intn(1+rnd.Intn(n))))
		}
		slices.Sort(g[v])
		g[v] = slices.Compact(g[v])
	}
	return g
}

// P20.2, P20.3, P20.4: pack.Build's files; what follows of them; nothing else stays.
func TestTurned(t *testing.T) {
	rnd := rand.New(rand.NewSource(1))
	for range 60 {
		s := space(t, 300, 1+rnd.Intn(5))
		want, p := someGraph(rnd), bv.Usual()
		g := inSpace(t, s, want)
		budget := 1536 + rnd.Intn(4000)
		made := func(f func(*pool.Space, *walk.Graph, bv.Params, int) (ingest.Built, api.Errno), g *walk.Graph, want api.Graph) *walk.Graph {
			room := s.Map().Room()
			b, e := f(s, g, p, budget)
			if e != 0 || s.Map().Room() != room-b.X.Len || s.Stats().Most > 1 {
				t.Fatal(e)
			}
			r, _ := stream.Open(s, b.X)
			text, _ := r.ReadAt(0, r.Length())
			if file, _ := pack.Build(want, p); text != file {
				t.Fatal("another file")
			}
			return walked(t, s, b)
		}
		back, both := of(want, false), of(want, true)
		h := made(Transpose, g, back)
		made(Transpose, h, want)
		u := made(Symmetrise, g, both)
		made(Transpose, u, both)
		made(Symmetrise, u, both)
		made(Symmetrise, h, both)
		if !same(graph(g), want) {
			t.Fatal("the graph does not stay")
		}
	}
}

// source refuses behind some calls.
type source struct {
	ef.Text
	left int
}

func (s *source) ReadAt(off, n int) (string, api.Errno) {
	if s.left--; s.left < 0 {
		return "", api.ErrCorrupt
	}
	return s.Text.ReadAt(off, n)
}

// P20.4: refused: by the graph's source, for want of room, by a device that goes down.
func TestNothingStays(t *testing.T) {
	g := someGraph(rand.New(rand.NewSource(5)))
	for len(g) < 60 {
		g = append(g, []uint32{1, 5, 9})
	}
	file, _ := pack.Build(g, bv.Usual())
	for left := 2; left < 100; left += 7 {
		s := space(t, 100, 2)
		w, _ := walk.From(&source{ef.Text(file), left})
		if b, e := Transpose(s, w, bv.Usual(), 1536); e != api.ErrCorrupt || b != (ingest.Built{}) || s.Map().Room() != 100 {
			t.Errorf("a source that refuses: %v", e)
		}
	}
	for room := range 30 {
		s := space(t, 100, 2)
		w := inSpace(t, s, g)
		s.Take(s.Map().Room() - room)
		if b, e := Symmetrise(s, w, bv.Usual(), 1536); e != 0 && e != api.ErrFull || s.Map().Room() != room-b.X.Len {
			t.Errorf("room %d: %v", room, e)
		}
	}
	for at := 1; at < 40; at++ {
		s := space(t, 200, 2)
		w := inSpace(t, s, g)
		s.Device().Plan(at, blockdev.Crash{})
		if _, e := Symmetrise(s, w, bv.Usual(), 1536); s.Device().Down() != (e == api.ErrDown) {
			t.Errorf("down at %d: %v", at, e)
		}
	}
	broken := []byte(file)
	broken[40] ^= 255
	w, _ := walk.From(ef.Text(broken))
	s := space(t, 100, 2)
	if _, e := Transpose(s, w, bv.Usual(), 1536); e != api.ErrForm || s.Map().Room() != 100 {
		t.Errorf("a list that is none: %v", e)
	}
}

// P20.1: a symmetrised graph of too many edges.
func TestOver(t *testing.T) {
	g := make(api.Graph, 65536)
	for v := range 16 {
		for w := range 40000 {
			g[v] = append(g[v], uint32(20000+w))
		}
	}
	file, e := pack.Build(g, bv.Usual())
	if e != 0 {
		t.Fatal(e)
	}
	d, _ := blockdev.New(blockdev.Geometry{Blocks: 4096, Sectors: 8})
	m, _ := extent.New(0, 4096)
	s, _ := pool.New(d, 64, m)
	w, _ := walk.From(ef.Text(file))
	if b, e := Symmetrise(s, w, bv.Usual(), sorter.MaxBudget); e != api.ErrOver || b != (ingest.Built{}) || s.Map().Room() != 4096 {
		t.Errorf("%v", e)
	}
}
