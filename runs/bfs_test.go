package runs

import (
	"math/rand"
	"testing"

	"wattle/api"
	"wattle/bfs"
	"wattle/bv"
	"wattle/num"
)

// P22.1, P22.2: the chapter's examples.
func TestBfs(t *testing.T) {
	g := walked(api.Graph{{1, 2}, {3}, {3}, {}, {0}}, bv.Usual())
	s := space(20, 2)
	r, e := bfs.New(s, g, 0)
	if e != 0 || r.Count() != 5 {
		t.Fatal(e)
	}
	for i, want := range []bool{false, false, true} {
		if done, e := r.Step(); done != want || e != 0 || r.Steps() != i+1 {
			t.Errorf("step %d: %v, %v", i, done, e)
		}
	}
	for i, want := range []uint64{0, 1, 1, 2, bfs.Never} {
		if v, e := r.Value(i); v != want || e != 0 {
			t.Errorf("Value(%d): %d, %v", i, v, e)
		}
	}
	text, _ := r.Save()
	if want := "\x00\x00\x00\x03\x01" + num.Text(0, 4) + num.Text(1, 4) + num.Text(1, 4) + num.Text(2, 4) + "\xff\xff\xff\xff"; text != want {
		t.Errorf("%x", text)
	}
	for steps, want := range map[uint64]api.Errno{5: 0, 6: api.ErrForm} {
		if e := r.Load(num.Text(steps, 4) + text[4:]); e != want {
			t.Errorf("%d steps: %v", steps, e)
		}
	}
	for _, root := range []int{-1, 5} {
		if r, e := bfs.New(s, g, root); r != nil || e != api.ErrArg {
			t.Errorf("root %d: %v", root, e)
		}
	}
	r, _ = bfs.New(s, g, 4)
	toEnd(t, r)
	if r.Steps() != 4 {
		t.Errorf("from 4: %d steps", r.Steps())
	}
	if r, e := bfs.New(s, walked(nil, bv.Usual()), 0); r != nil || e != api.ErrArg {
		t.Error("a graph without vertices")
	}
}

// P22.5: along each edge by at most one; each that is reached has a predecessor nearer by one.
func TestBfsEdges(t *testing.T) {
	rnd := rand.New(rand.NewSource(5))
	for range 50 {
		g := some(rnd, 1+rnd.Intn(60), false)
		r, _ := bfs.New(space(20, 2), walked(g, bv.Usual()), 0)
		toEnd(t, r)
		l := values(t, r)
		back := turned(g)
		for v, d := range l {
			nearer := v == 0 || d == bfs.Never
			for _, w := range g[v] {
				if d != bfs.Never && l[w] > d+1 {
					t.Fatal("an edge that grows by more than one")
				}
			}
			for _, u := range back[v] {
				nearer = nearer || l[u]+1 == d
			}
			if !nearer {
				t.Fatal("no predecessor that is nearer")
			}
		}
	}
}
