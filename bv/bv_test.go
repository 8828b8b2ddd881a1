package bv

import (
	"math/rand"
	"slices"
	"testing"

	"wattle/api"
	"wattle/bitio"
	"wattle/list"
)

func same(a, b api.Graph) bool {
	return slices.EqualFunc(a, b, func(x, y []uint32) bool { return slices.Equal(x, y) })
}

func refs(t *testing.T, g api.Graph, p Params) []int {
	t.Helper()
	k, e := New(p)
	if e != 0 {
		t.Fatal(e)
	}
	var l []int
	for _, succ := range g {
		before := k.Bits()
		r, bits, e := k.Add(succ)
		if e != 0 || k.Bits() != before+bits {
			t.Fatal(e)
		}
		l = append(l, r)
	}
	return l
}

// P14.1, P14.2: the chapter's examples.
func TestExamples(t *testing.T) {
	p := Usual()
	if p != (Params{7, 3, 4, 3, 1024}) || p.List() != (list.Params{Window: 7, Interval: 4, Zeta: 3}) {
		t.Error("Usual")
	}
	if s, l, e := Encode(nil, p); s != "" || !slices.Equal(l, []uint64{0}) || e != 0 {
		t.Error("no vertices")
	}
	g := api.Graph{{1, 2, 3}, {1, 2, 3}, {1, 2, 3}, {}}
	if l := refs(t, g, p); !slices.Equal(l, []int{0, 1, 1, 0}) {
		t.Error(l)
	}
	p.Depth = 1
	if l := refs(t, g, p); !slices.Equal(l, []int{0, 1, 2, 0}) {
		t.Error(l)
	}
	p.Cap = 2
	if l := refs(t, g, p); !slices.Equal(l, []int{0, 0, 0, 0}) {
		t.Error(l)
	}
	if k, e := New(Params{}); k != nil || e != api.ErrArg {
		t.Error("New")
	}
	for _, g := range []api.Graph{{{0, 0}}, {{5}}, {{1, 0}, {}}, make(api.Graph, api.MaxVertices+1)} {
		if s, l, e := Encode(g, Usual()); s != "" || len(l) > 0 || e != api.ErrArg {
			t.Errorf("%v", e)
		}
	}
	if _, _, e := Encode(nil, Params{}); e != api.ErrArg {
		t.Error("Params")
	}
}

// P14.1: Params, and the errors of a packer.
func TestRefused(t *testing.T) {
	for _, x := range []struct {
		p    Params
		want api.Errno
	}{{Usual(), 0}, {Params{0, 0, 0, 1, 0}, 0}, {Params{16, 16, 64, 16, 65536}, 0}, {Params{17, 0, 0, 1, 0}, api.ErrArg}, {Params{0, 17, 0, 1, 0}, api.ErrArg}, {Params{0, -1, 0, 1, 0}, api.ErrArg}, {Params{0, 0, 1, 1, 0}, api.ErrArg}, {Params{0, 0, 0, 0, 0}, api.ErrArg}, {Params{0, 0, 0, 1, -1}, api.ErrArg}, {Params{0, 0, 0, 1, 65537}, api.ErrArg}} {
		if x.p.Check() != x.want {
			t.Errorf("%v: %v", x.p, x.p.Check())
		}
	}
	k, _ := New(Usual())
	for _, l := range [][]uint32{{2, 1}, {1, 1}, {65536}} {
		if r, b, e := k.Add(l); r != 0 || b != 0 || e != api.ErrArg || k.Len() != 0 {
			t.Errorf("%v: %v", l, e)
		}
	}
	row := make([]uint32, api.MaxVertices)
	for i := range row {
		row[i] = uint32(i)
	}
	for range 16 {
		if _, _, e := k.Add(row); e != 0 {
			t.Fatal(e)
		}
	}
	if _, _, e := k.Add([]uint32{1}); e != api.ErrOver || k.Len() != 16 {
		t.Errorf("too many edges: %v", e)
	}
	for range api.MaxVertices - 16 {
		k.Add(nil)
	}
	if _, _, e := k.Add([]uint32{2, 1}); e != api.ErrFull || k.Len() != api.MaxVertices {
		t.Errorf("too many vertices: %v", e)
	}
	for _, k := range []*Packer{nil, {}} {
		_, _, e := k.Add([]uint32{2, 1})
		_, f := k.Text()
		_, g := k.Drain()
		if e != api.ErrNil || f != api.ErrNil || g != api.ErrNil || k.Len()+k.Bits() != 0 {
			t.Error("a nil packer")
		}
	}
	r := bitio.Open("\xff")
	for _, n := range []int{-1, api.MaxVertices + 1} {
		if _, _, e := Decode(r, n, Usual()); e != api.ErrArg {
			t.Errorf("%d vertices: %v", n, e)
		}
	}
	_, _, e := Decode(nil, -1, Params{})
	_, _, f := Decode(r, 0, Params{})
	if e != api.ErrNil || f != api.ErrArg {
		t.Error("no reader, no Params")
	}
}

func someGraph(rnd *rand.Rand) api.Graph {
	n := rnd.Intn(60)
	g := make(api.Graph, n)
	for x := range g {
		if x > 0 && rnd.Intn(2) == 0 {
			for _, v := range g[rnd.Intn(x)] {
				if rnd.Intn(4) > 0 {
					g[x] = append(g[x], v)
				}
			}
		}
		for range rnd.Intn(8) * rnd.Intn(2) {
			g[x] = append(g[x], uint32(rnd.Intn(n)))
		}
		slices.Sort(g[x])
		g[x] = slices.Compact(g[x])
	}
	return g
}

func someParams(rnd *rand.Rand) Params {
	return Params{rnd.Intn(17), rnd.Intn(5), []int{0, 2, 4}[rnd.Intn(3)], 1 + rnd.Intn(6), []int{0, 3, 8, 65536}[rnd.Intn(4)]}
}

// chosen is the reference of each vertex, by the chapter's words.
func chosen(g api.Graph, p Params) []int {
	l, chains := make([]int, len(g)), make([]int, len(g))
	for x, succ := range g {
		best, _ := list.Bits(x, succ, nil, 0, p.List())
		for r := 1; r <= p.Window && r <= x && len(succ) > 0 && len(succ) <= p.Cap; r++ {
			by := g[x-r]
			if len(by) == 0 || len(by) > p.Cap || chains[x-r] >= p.Depth {
				continue
			}
			if n, _ := list.Bits(x, succ, by, r, p.List()); n < best {
				best, l[x], chains[x] = n, r, chains[x-r]+1
			}
		}
	}
	return l
}

// P14.3, P14.4, P14.5: there and back, drained or not; not longer than without references; chains.
func TestBack(t *testing.T) {
	rnd := rand.New(rand.NewSource(1))
	for range 400 {
		g, p := someGraph(rnd), someParams(rnd)
		s, places, e := Encode(g, p)
		if e != 0 || len(places) != len(g)+1 || int(places[len(g)]+7)/8 != len(s) {
			t.Fatal(e)
		}
		if got, want := refs(t, g, p), chosen(g, p); !slices.Equal(got, want) {
			t.Fatalf("references %v, not %v", got, want)
		}
		w := bitio.New()
		w.Put(1, 3)
		w.Add(s, int(places[len(g)]))
		w.Put(rnd.Uint64(), 64)
		text, _ := w.Text()
		r := bitio.Open(text)
		r.Seek(3)
		h, again, e := Decode(r, len(g), p)
		if e != 0 || !same(g, h) || !slices.Equal(places, again) || r.At() != 3+int(places[len(g)]) {
			t.Fatalf("Decode: %v", e)
		}
		k, _ := New(p)
		drained := ""
		nonempty := 0
		for _, l := range g {
			own := slices.Clone(l)
			k.Add(own)
			for i := range own {
				own[i] = 7 // what was handed in is not kept
			}
			if len(l) > 0 {
				nonempty++
			}
			if rnd.Intn(3) == 0 {
				d, e := k.Drain()
				if rest, _ := k.Text(); e != 0 || len(rest) > 1 {
					t.Fatal("Drain")
				}
				drained += d
			}
		}
		rest, _ := k.Text()
		if drained+rest != s || k.Bits() != int(places[len(g)]) || k.Len() != len(g) {
			t.Fatal("drained: other bits")
		}
		plain := p
		plain.Window = 0
		_, without, _ := Encode(g, plain)
		if places[len(g)] > without[len(g)]+uint64(nonempty) {
			t.Fatal("longer than without references")
		}
	}
}

// P14.2: references that may not be are no form; those that Encode does not take are.
func TestReferences(t *testing.T) {
	p := Params{7, 2, 0, 3, 3}
	l := []uint32{1, 2}
	type one struct {
		succ []uint32
		r    int
	}
	for i, x := range []struct {
		l    []one
		want api.Errno
	}{
		{[]one{{l, 0}, {l, 0}, {l, 2}, {l, 2}, {}}, 0},
		{[]one{{l, 0}, {l, 1}, {l, 1}, {l, 1}, {}}, api.ErrForm},                           // its chain
		{[]one{{l, 1}, {}, {}, {}, {}}, api.ErrForm},                                       // ahead of the first
		{[]one{{}, {l, 1}, {}, {}, {}}, api.ErrForm},                                       // an empty list is taken
		{[]one{{[]uint32{0, 1, 2, 3}, 0}, {l, 1}, {}, {}, {}}, api.ErrForm},                // a long one is taken
		{[]one{{l, 0}, {[]uint32{0, 1, 2, 3}, 1}, {}, {}, {}}, api.ErrForm},                // a long one takes
		{[]one{{l, 0}, {[]uint32{0, 1, 3}, 1}, {[]uint32{0, 1, 3}, 0}, {l, 1}, {l, 2}}, 0}, // whatever Encode would take
		{[]one{{[]uint32{7}, 0}, {}, {}, {}, {}}, api.ErrForm},                             // no vertex
	} {
		w := bitio.New()
		for v, y := range x.l {
			var by []uint32
			if y.r > 0 && v >= y.r {
				by = x.l[v-y.r].succ
			}
			if e := list.Encode(w, v, y.succ, by, y.r, p.List()); e != 0 {
				t.Fatal(e)
			}
		}
		s, _ := w.Text()
		r := bitio.Open(s)
		g, places, e := Decode(r, len(x.l), p)
		if e != x.want || e != 0 && (g != nil || places != nil || r.At() != 0) {
			t.Errorf("%d: %v", i, e)
		}
	}
	if _, _, e := Decode(bitio.Open("\xf0"), 9, p); e != api.ErrForm {
		t.Error("too few bits")
	}
}
