package walk

import (
	"math/rand"
	"slices"
	"testing"

	"wattle/api"
	"wattle/bitio"
	"wattle/blockdev"
	"wattle/bv"
	"wattle/ef"
	"wattle/extent"
	"wattle/list"
	"wattle/pack"
	"wattle/pool"
	"wattle/stream"
)

// source counts the bytes that are read of a text, and may refuse.
type source struct {
	text  string
	bytes int
	e     api.Errno
}

func (s *source) Length() int { return len(s.text) }

func (s *source) ReadAt(off, n int) (string, api.Errno) {
	s.bytes += n
	if s.e != api.OK {
		return "", s.e
	}
	return ef.Text(s.text).ReadAt(off, n)
}

func built(t *testing.T, g api.Graph, p bv.Params) string {
	t.Helper()
	s, e := pack.Build(g, p)
	if e != api.OK {
		t.Fatal(e)
	}
	return s
}

func opened(t *testing.T, s string) *Graph {
	t.Helper()
	g, e := From(ef.Text(s))
	if e != api.OK {
		t.Fatal(e)
	}
	return g
}

func ranged(g *Graph, v int) ([]uint32, api.Errno) {
	var l []uint32
	for x, e := range g.Successors(v) {
		if e != api.OK {
			return []uint32{x}, e
		}
		l = append(l, x)
	}
	return l, api.OK
}

// P16.1, P16.2: the chapter's examples.
func TestExamples(t *testing.T) {
	g := opened(t, built(t, api.Graph{{1, 2, 3}, {1, 2, 3}, {}, {0}}, bv.Usual()))
	if g.N() != 4 || g.M() != 7 || g.Params() != bv.Usual() || g.Check() != 0 {
		t.Error("head")
	}
	if d, e := g.Degree(1); d != 3 || e != 0 {
		t.Error("Degree")
	}
	if l, e := g.List(1); !slices.Equal(l, []uint32{1, 2, 3}) || e != 0 {
		t.Error("List")
	}
	for _, x := range []struct {
		u, v int
		want bool
		e    api.Errno
	}{{0, 3, true, 0}, {0, 0, false, 0}, {2, 4, false, api.ErrArg}, {2, -1, false, api.ErrArg}, {4, 0, false, api.ErrArg}} {
		if ok, e := g.Has(x.u, x.v); ok != x.want || e != x.e {
			t.Errorf("Has(%d, %d): %v, %v", x.u, x.v, ok, e)
		}
	}
	for _, v := range []int{-1, 4, 9} {
		_, e := g.Degree(v)
		_, f := g.List(v)
		if l, h := ranged(g, v); e != api.ErrArg || f != api.ErrArg || h != api.ErrArg || !slices.Equal(l, []uint32{0}) {
			t.Errorf("vertex %d", v)
		}
	}
	seq := g.Successors(0)
	for range 2 {
		for x, e := range seq {
			if x != 1 || e != 0 {
				t.Error("gone over again")
			}
			break
		}
	}
	if l, _ := ranged(g, 3); !slices.Equal(l, []uint32{0}) {
		t.Error("Successors")
	}
}

// The errors: none, sources that refuse, files that are none.
func TestRefused(t *testing.T) {
	if g, e := From(nil); g != nil || e != api.ErrNil {
		t.Error("no source")
	}
	if g, e := Open(nil); g != nil || e != api.ErrNil {
		t.Error("no reader")
	}
	s := built(t, api.Graph{{1, 2, 3}, {1, 2, 3}, {}, {0}}, bv.Usual())
	for i, bad := range []string{"", "12345", s[:len(s)-1], s + "x", "x" + s[1:], s[:7] + "\x03" + s[8:]} {
		if g, e := From(ef.Text(bad)); g != nil || e != api.ErrForm {
			t.Errorf("file %d: %v", i, e)
		}
	}
	if g, e := From(&source{text: s, e: api.ErrDown}); g != nil || e != api.ErrDown {
		t.Error("a source that refuses")
	}
	src := &source{text: s}
	h, _ := From(src)
	src.e = api.ErrMemory
	_, a := h.Degree(0)
	_, b := h.List(0)
	_, c := h.Has(0, 0)
	if _, d := ranged(h, 0); a != api.ErrMemory || b != api.ErrMemory || c != api.ErrMemory || d != api.ErrMemory || h.Check() != api.ErrMemory {
		t.Error("a source that refuses later")
	}
	if g, e := From((*stream.Reader)(nil)); g != nil || e != api.ErrForm {
		t.Error("a source of nothing")
	}
	if g, e := From((*source)(nil)); g != nil || e != api.ErrForm {
		t.Error("a source that panics")
	}
	for _, g := range []*Graph{nil, {}} {
		_, a := g.Degree(0)
		_, b := g.List(0)
		_, c := g.Has(0, 0)
		if _, d := ranged(g, 0); a != api.ErrNil || b != api.ErrNil || c != api.ErrNil || d != api.ErrNil || g.Check() != api.ErrNil || g.N()+g.M() != 0 || g.Params() != (bv.Params{}) {
			t.Error("a nil graph")
		}
	}
}

func someGraph(rnd *rand.Rand) api.Graph {
	n := rnd.Intn(80)
	g := make(api.Graph, n)
	for x := range g {
		if x > 0 && rnd.Intn(3) > 0 {
			g[x] = append(g[x], g[x-1]...)
		}
		for range rnd.Intn(5) {
			g[x] = append(g[x], uint32(rnd.Intn(n)))
		}
		slices.Sort(g[x])
		g[x] = slices.Compact(g[x])
	}
	return g
}

func someParams(rnd *rand.Rand) bv.Params {
	return bv.Params{Window: rnd.Intn(9), Depth: rnd.Intn(4), Interval: []int{0, 2, 4}[rnd.Intn(3)], Zeta: 1 + rnd.Intn(5), Cap: []int{3, 20, 100}[rnd.Intn(3)]}
}

// P16.3, P16.4, P16.5: as it was packed, also in a stream; few bytes are read; other bytes tell a list or ErrForm.
func TestAsPacked(t *testing.T) {
	rnd := rand.New(rand.NewSource(1))
	for range 200 {
		want, p := someGraph(rnd), someParams(rnd)
		s := built(t, want, p)
		src := &source{text: s}
		g, e := From(src)
		if e != 0 || g.Check() != 0 {
			t.Fatal(e)
		}
		d, _ := blockdev.New(blockdev.Geometry{Blocks: 64, Sectors: 1})
		m, _ := extent.New(0, 64)
		space, _ := pool.New(d, 1+rnd.Intn(4), m)
		blocks, _ := stream.Blocks(512, len(s))
		x, _ := space.Take(blocks)
		w, _ := stream.Create(space, x)
		w.Write(s)
		w.Close()
		r, _ := stream.Open(space, x)
		streamed, e := Open(r)
		if e != 0 {
			t.Fatal(e)
		}
		_, places, _ := bv.Encode(want, p)
		widest := 0
		for v := range want {
			widest = max(widest, int(places[v+1]-places[v]))
		}
		for _, g := range []*Graph{g, streamed} {
			for v, l := range want {
				src.bytes = 0
				got, e := g.List(v)
				if e != 0 || !slices.Equal(got, l) {
					t.Fatalf("List(%d): %v, %v, not %v", v, got, e, l)
				}
				if src.bytes > (p.Depth+1)*(widest/8+2+80) {
					t.Fatalf("List(%d) reads %d bytes", v, src.bytes)
				}
				degree, e := g.Degree(v)
				again, f := ranged(g, v)
				u := rnd.Intn(len(want))
				has, h := g.Has(v, u)
				if degree != len(l) || !slices.Equal(again, l) || has != slices.Contains(l, uint32(u)) || e+f+h != 0 {
					t.Fatalf("vertex %d", v)
				}
			}
		}
		if st := space.Stats(); st.Most > 1 || st.Pinned > 0 {
			t.Fatal(st)
		}
		b := []byte(s)
		b[rnd.Intn(len(b))] ^= byte(1 << rnd.Intn(8))
		other, e := From(ef.Text(b))
		if e != 0 {
			continue
		}
		f, opens := pack.Open(string(b))
		if other.Check() != opens {
			t.Fatal("Check")
		}
		for v := range other.N() {
			l, e := other.List(v)
			if opens == 0 {
				if want, _ := f.List(v); e != 0 || !slices.Equal(l, want) {
					t.Fatal("a file with other references")
				}
			}
			if e != 0 && (e != api.ErrForm || len(l) > 0) {
				t.Fatal(e)
			}
			if d, f := other.Degree(v); e == 0 && (f != 0 || d != len(l)) {
				t.Fatal("Degree")
			}
		}
	}
}

// P16.2: Degree reads the head alone.
func TestDegree(t *testing.T) {
	var row []uint32
	for i := range 3000 {
		row = append(row, uint32(i*i%65521))
	}
	slices.Sort(row)
	g := make(api.Graph, 65536)
	g[0] = slices.Compact(row)
	src := &source{text: built(t, g, bv.Usual())}
	x, _ := From(src)
	src.bytes = 0
	x.List(0)
	whole := src.bytes
	src.bytes = 0
	_, places, _ := bv.Encode(g, bv.Usual())
	if d, e := x.Degree(0); d != len(g[0]) || e != 0 || whole-src.bytes < int(places[1])/8-8 {
		t.Errorf("%d, %v: %d bytes, and %d for all", d, e, src.bytes, whole)
	}
}

// foreign is a file whose lists are packed by the references that are told; over bits stand behind each list.
func foreign(t *testing.T, g api.Graph, refs []int, over int, p bv.Params) string {
	t.Helper()
	w := bitio.New()
	var places []uint64
	m := 0
	for v, l := range g {
		places = append(places, uint64(w.Len()))
		var by []uint32
		if r := refs[v]; r > 0 && r <= v {
			by = g[v-r]
		}
		if e := list.Encode(w, v, l, by, refs[v], p.List()); e != 0 {
			t.Fatal(e)
		}
		w.Put(0, over)
		m += len(l)
	}
	places = append(places, uint64(w.Len()))
	bits, _ := w.Text()
	head, e := pack.Head{N: len(g), M: m, Params: p, Bits: w.Len()}.Text()
	index, _ := ef.Build(places)
	if e != 0 {
		t.Fatal(e)
	}
	return head + bits + index
}

// The list of a vertex as the bytes tell it: which references may be.
func TestForeign(t *testing.T) {
	p := bv.Params{Window: 5, Depth: 2, Interval: 0, Zeta: 3, Cap: 3}
	a, long := []uint32{1, 2, 4}, []uint32{0, 1, 2, 3}
	for i, x := range []struct {
		g    api.Graph
		refs []int
		over int
		told []bool
	}{
		{api.Graph{a, a, a, a, {}}, []int{0, 1, 1, 1, 0}, 0, []bool{true, true, true, false, true}}, // the last one is behind three others
		{api.Graph{a, a, a, a, {}}, []int{0, 1, 1, 3, 0}, 0, []bool{true, true, true, true, true}},
		{api.Graph{a, a, {}, {}, {}}, []int{1, 2, 0, 0, 0}, 0, []bool{false, false, true, true, true}},    // ahead of the first
		{api.Graph{{}, a, {}, {}, {}}, []int{0, 1, 0, 0, 0}, 0, []bool{true, false, true, true, true}},    // by an empty one
		{api.Graph{long, a, {}, {}, {}}, []int{0, 1, 0, 0, 0}, 0, []bool{true, false, true, true, true}},  // by a long one
		{api.Graph{a, long, {}, {}, {}}, []int{0, 1, 0, 0, 0}, 0, []bool{true, false, true, true, true}},  // a long one by another
		{api.Graph{a, a, {}, {}, {}}, []int{0, 1, 0, 0, 0}, 1, []bool{false, false, false, false, false}}, // something stands behind them
		{api.Graph{a, {9}, {}, {}, {}}, []int{0, 0, 0, 0, 0}, 0, []bool{true, false, true, true, true}},   // no vertex
	} {
		g := opened(t, foreign(t, x.g, x.refs, x.over, p))
		all := true
		for v, told := range x.told {
			l, e := g.List(v)
			if told && (e != 0 || !slices.Equal(l, x.g[v])) || !told && (e != api.ErrForm || len(l) > 0) {
				t.Errorf("graph %d, vertex %d: %v, %v", i, v, l, e)
			}
			all = all && told
			if d, e := g.Degree(v); d != len(x.g[v]) || e != 0 {
				t.Errorf("graph %d, vertex %d: degree %d, %v", i, v, d, e)
			}
		}
		if (g.Check() == 0) != all {
			t.Errorf("graph %d: %v", i, g.Check())
		}
	}
}
