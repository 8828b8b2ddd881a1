package pack

import (
	"math/rand"
	"slices"
	"strings"
	"testing"

	"wattle/api"
	"wattle/bitio"
	"wattle/bv"
	"wattle/ef"
	"wattle/list"
)

func same(a, b api.Graph) bool {
	return slices.EqualFunc(a, b, func(x, y []uint32) bool { return slices.Equal(x, y) })
}

// P15.1: heads.
func TestHead(t *testing.T) {
	u := bv.Usual()
	s, e := Head{N: 1, Params: u}.Text()
	if want := "wtl1\x00\x00\x00\x01\x00\x00\x00\x00\x07\x03\x04\x03\x00\x00\x04\x00\x00\x00\x00\x00\x00\x00\x00\x00"; s != want || e != 0 || len(s) != HeadBytes {
		t.Errorf("%x, %v", s, e)
	}
	for _, x := range []struct {
		h    Head
		want api.Errno
	}{
		{Head{Params: u}, 0}, {Head{N: -1, Params: u}, api.ErrArg}, {Head{M: 1, Params: u}, api.ErrArg}, {Head{Bits: 1, Params: u}, api.ErrArg}, {Head{}, api.ErrArg},
		{Head{api.MaxVertices, api.MaxEdges, u, bitio.MaxBits}, 0}, {Head{api.MaxVertices + 1, 0, u, 0}, api.ErrArg}, {Head{1, api.MaxEdges + 1, u, 0}, api.ErrArg},
		{Head{1, -1, u, 0}, api.ErrArg}, {Head{1, 0, u, bitio.MaxBits + 1}, api.ErrArg}, {Head{1, 0, u, -1}, api.ErrArg}, {Head{1, 1, bv.Params{Zeta: 17}, 1}, api.ErrArg},
	} {
		text, e := x.h.Text()
		n, f := x.h.Size()
		if x.h.Check() != x.want || e != x.want || f != x.want || (text == "") != (e != 0) || (n == 0) != (e != 0) {
			t.Errorf("%v: %v, %v, %v", x.h, x.h.Check(), e, f)
		}
		if e == 0 {
			if h, e := ReadHead(text + "x"); h != x.h || e != 0 {
				t.Errorf("%v: %v, %v", x.h, h, e)
			}
		}
	}
	for _, bad := range []string{"", s[:27], "wtl2" + s[4:], s[:4] + "\xff" + s[5:], s[:15] + "\x00" + s[16:], s[:20] + "\xff" + s[21:], s[:20] + "\x80" + s[21:]} {
		if h, e := ReadHead(bad); h != (Head{}) || e != api.ErrForm {
			t.Errorf("%x: %v", bad, e)
		}
	}
}

// P15.1, P15.2: the chapter's examples.
func TestExamples(t *testing.T) {
	s, e := Build(nil, bv.Usual())
	if e != 0 || len(s) != 28+17 {
		t.Errorf("%d bytes, %v", len(s), e)
	}
	if f, e := Open(s); e != 0 || f.Head().N != 0 || len(f.Graph()) != 0 {
		t.Error("no vertices")
	}
	s, _ = Build(api.Graph{{1, 2, 3}, {0}, {}, {1}}, bv.Usual())
	f, e := Open(s)
	if e != 0 || f.Head().N != 4 || f.Head().M != 5 {
		t.Fatal(e)
	}
	if l, e := f.List(0); !slices.Equal(l, []uint32{1, 2, 3}) || e != 0 {
		t.Error("List")
	} else {
		l[0] = 9
	}
	f.Graph()[0][1] = 9
	if !same(f.Graph(), api.Graph{{1, 2, 3}, {0}, {}, {1}}) {
		t.Error("what is handed out is the file's own")
	}
	for _, v := range []int{-1, 4} {
		if _, e := f.List(v); e != api.ErrArg {
			t.Errorf("List(%d): %v", v, e)
		}
	}
	var none *File
	if _, e := none.List(0); e != api.ErrNil || none.Head() != (Head{}) || none.Graph() != nil {
		t.Error("a nil file")
	}
	if s, e := Build(api.Graph{{1}}, bv.Usual()); s != "" || e != api.ErrArg {
		t.Error("no graph")
	}
	if s, e := Build(nil, bv.Params{}); s != "" || e != api.ErrArg {
		t.Error("no Params")
	}
}

func someGraph(rnd *rand.Rand) api.Graph {
	n := rnd.Intn(40)
	g := make(api.Graph, n)
	for x := range g {
		if x > 0 && rnd.Intn(2) == 0 {
			g[x] = append(g[x], g[x-1]...)
		}
		for range rnd.Intn(6) {
			g[x] = append(g[x], uint32(rnd.Intn(n)))
		}
		slices.Sort(g[x])
		g[x] = slices.Compact(g[x])
	}
	return g
}

// P15.3, P15.4: there and back; what Open takes tells one graph; a byte of the index, or of the filling, matters.
func TestBack(t *testing.T) {
	rnd := rand.New(rand.NewSource(1))
	for range 300 {
		g := someGraph(rnd)
		p := bv.Params{Window: rnd.Intn(17), Depth: rnd.Intn(4), Interval: []int{0, 2, 4}[rnd.Intn(3)], Zeta: 1 + rnd.Intn(16), Cap: rnd.Intn(30)}
		s, e := Build(g, p)
		if e != 0 {
			t.Fatal(e)
		}
		f, e := Open(s)
		if e != 0 || !same(f.Graph(), g) || f.Head().Params != p {
			t.Fatalf("Open: %v", e)
		}
		if n, e := f.Head().Size(); n != len(s) || e != 0 {
			t.Fatalf("%d bytes, not %d", len(s), n)
		}
		at := rnd.Intn(len(s))
		b := []byte(s)
		b[at] ^= byte(1 + rnd.Intn(255))
		index := HeadBytes + (f.Head().Bits+7)/8
		_, e = Open(string(b))
		if at >= index && e != api.ErrForm {
			t.Fatal("another index")
		}
		if fill := 8*(index-HeadBytes) - f.Head().Bits; fill > 0 {
			b := []byte(s)
			b[index-1] |= 1
			if _, e := Open(string(b)); e != api.ErrForm {
				t.Fatal("another filling")
			}
		}
		for _, bad := range []string{s + "x", s[:len(s)-1], s[:rnd.Intn(len(s))]} {
			if f, e := Open(bad); f != nil || e != api.ErrForm {
				t.Fatal("other lengths")
			}
		}
	}
}

// P15.2: references that Build does not take may be; heads that say other than what stands there may not.
func TestForeign(t *testing.T) {
	p := bv.Usual()
	w := bitio.New()
	l := []uint32{0, 1}
	var places []uint64
	for v, r := range []int{0, 0} {
		places = append(places, uint64(w.Len()))
		list.Encode(w, v, l, nil, r, p.List())
	}
	places = append(places, uint64(w.Len()))
	bits, _ := w.Text()
	index, _ := ef.Build(places)
	head := func(m, n int) string {
		s, _ := Head{2, m, p, n}.Text()
		return s
	}
	if f, e := Open(head(4, w.Len()) + bits + index); e != 0 || !same(f.Graph(), api.Graph{l, l}) {
		t.Errorf("without references: %v", e)
	}
	for _, s := range []string{head(3, w.Len()) + bits + index, head(4, w.Len()+1) + bits + index, head(4, w.Len()-1) + bits + index, head(4, w.Len()) + strings.Repeat("\xff", len(bits)) + index} {
		if f, e := Open(s); f != nil || e != api.ErrForm {
			t.Errorf("%v", e)
		}
	}
}
