package edges

import (
	"math/rand"
	"slices"
	"strings"
	"testing"

	"wattle/api"
)

func same(a, b api.Graph) bool {
	return slices.EqualFunc(a, b, func(x, y []uint32) bool { return slices.Equal(x, y) })
}

// list is edges of their numbers.
func list(l ...uint32) []api.Edge {
	var edges []api.Edge
	for i := 0; i < len(l); i += 2 {
		edges = append(edges, api.Edge{From: l[i], To: l[i+1]})
	}
	return edges
}

// P18.1, P18.2: lines that are edges, that say nothing, that are none.
func TestParse(t *testing.T) {
	for _, x := range []struct {
		n    int
		text string
		want []api.Edge
		line int
		e    api.Errno
	}{
		{10, "1 2\n# no\n\n3 9\n", list(1, 2, 3, 9), 0, 0},
		{10, "1 2\n3 10", nil, 2, api.ErrEdge},
		{10, "1  2", nil, 1, api.ErrEdge}, {10, "01 2", nil, 1, api.ErrEdge}, {10, "1 2 ", nil, 1, api.ErrEdge}, {10, " 1 2", nil, 1, api.ErrEdge}, {10, "1", nil, 1, api.ErrEdge},
		{10, "1 ", nil, 1, api.ErrEdge}, {10, "1 -2", nil, 1, api.ErrEdge}, {10, "1 +2", nil, 1, api.ErrEdge}, {10, "1 2 3", nil, 1, api.ErrEdge}, {10, "1\t2", nil, 1, api.ErrEdge}, {10, "1 2\r\n", nil, 1, api.ErrEdge},
		{10, "1 00", nil, 1, api.ErrEdge}, {10, "1 :", nil, 1, api.ErrEdge}, {10, " # no", nil, 1, api.ErrEdge},
		{65536, "65535 0", list(65535, 0), 0, 0}, {65536, "65536 0", nil, 1, api.ErrEdge}, {65536, "0 100000", nil, 1, api.ErrEdge}, {65536, "0 4294967296", nil, 1, api.ErrEdge},
		{0, "", nil, 0, 0}, {0, "\n\n#\n", nil, 0, 0}, {0, "0 0", nil, 1, api.ErrEdge}, {1, "\n\n0 0", list(0, 0), 0, 0},
		{-1, "", nil, 0, api.ErrArg}, {65537, "", nil, 0, api.ErrArg}, {1, "#" + strings.Repeat("a", api.MaxText), nil, 0, api.ErrArg}, {1, "#" + strings.Repeat("a", api.MaxText-1), nil, 0, 0},
	} {
		l, line, e := Parse(x.n, x.text)
		if !slices.Equal(l, x.want) || line != x.line || e != x.e {
			t.Errorf("Parse(%d, %.20q): %v, %d, %v", x.n, x.text, l, line, e)
		}
	}
}

// P18.1: readers, line by line.
func TestReader(t *testing.T) {
	r, e := NewReader(10, "\n1 2\n#\n3 4\n\n5 x\n6 7\n")
	if e != 0 || r.Line() != 0 {
		t.Fatal(e)
	}
	for i, x := range []struct {
		want api.Edge
		e    api.Errno
		line int
	}{{api.Edge{From: 1, To: 2}, 0, 2}, {api.Edge{From: 3, To: 4}, 0, 4}, {api.Edge{}, api.ErrEdge, 6}, {api.Edge{}, api.ErrEdge, 6}} {
		if got, e := r.Next(); got != x.want || e != x.e || r.Line() != x.line {
			t.Errorf("Next %d: %v, %v at %d", i, got, e, r.Line())
		}
	}
	r, _ = NewReader(10, "1 2\n#")
	r.Next()
	for range 2 {
		if x, e := r.Next(); x != (api.Edge{}) || e != api.ErrNone || r.Line() != 1 {
			t.Error("behind the last")
		}
	}
	if r, e := NewReader(-1, ""); r != nil || e != api.ErrArg {
		t.Error("NewReader")
	}
	var none *Reader
	if _, e := none.Next(); e != api.ErrNil || none.Line() != 0 {
		t.Error("a nil reader")
	}
}

// P18.3: texts and graphs of edges.
func TestShow(t *testing.T) {
	if s := Show(list(1, 2, 0, 70000, 1<<32-1, 10)); s != "1 2\n0 70000\n4294967295 10\n" || Show(nil) != "" {
		t.Errorf("%q", s)
	}
	if g, e := Group(3, list(1, 2, 1, 0, 1, 2)); e != 0 || !same(g, api.Graph{{}, {0, 2}, {}}) {
		t.Errorf("%v, %v", g, e)
	}
	for i, x := range []struct {
		n int
		l []api.Edge
	}{{1, list(0, 1)}, {1, list(1, 0)}, {-1, nil}, {65537, nil}, {0, list(0, 0)}} {
		if g, e := Group(x.n, x.l); len(g) != 0 || e != api.ErrArg {
			t.Errorf("Group %d: %v", i, e)
		}
	}
}

// P18.4, P18.5: Parse of Show; lines that say nothing; the order of edges.
func TestBack(t *testing.T) {
	rnd := rand.New(rand.NewSource(1))
	for range 300 {
		n := 1 + rnd.Intn(api.MaxVertices)
		var l []api.Edge
		for range rnd.Intn(40) {
			l = append(l, api.Edge{From: uint32(rnd.Intn(n)), To: uint32(rnd.Intn(n))})
		}
		text := Show(l)
		if m, line, e := Parse(n, text); !slices.Equal(m, l) || line != 0 || e != 0 {
			t.Fatalf("%v: %v", l, e)
		}
		var b strings.Builder
		for _, s := range strings.SplitAfter(text, "\n") {
			b.WriteString([]string{"", "\n", "# 1 2\n"}[rnd.Intn(3)] + s)
		}
		r, _ := NewReader(n, b.String())
		for _, x := range l {
			if y, e := r.Next(); y != x || e != 0 {
				t.Fatalf("%v, not %v: %v", y, x, e)
			}
		}
		if _, e := r.Next(); e != api.ErrNone {
			t.Fatal("more edges")
		}
		g, e := Group(n, l)
		rnd.Shuffle(len(l), func(i, j int) { l[i], l[j] = l[j], l[i] })
		h, f := Group(n, append(l, l...))
		if e != 0 || f != 0 || !same(g, h) {
			t.Fatal("another order")
		}
		for _, x := range l {
			if !slices.Contains(g[x.From], x.To) {
				t.Fatal("an edge is missing")
			}
		}
	}
}
