package runs

import (
	"math/rand"
	"slices"
	"testing"

	"wattle/api"
	"wattle/bv"
	"wattle/dom"
)

func domOf(t *testing.T, g api.Graph, root int) *dom.Run {
	t.Helper()
	x := files(g, root, bv.Usual())
	r, e := dom.New(space(60, 2), x.g, x.t, root)
	if e != api.OK {
		t.Fatal(e)
	}
	return r
}

// P24.1, P24.2: the chapter's examples.
func TestDom(t *testing.T) {
	g := api.Graph{{1, 2}, {3}, {3}, {4}, {}, {4}}
	r := domOf(t, g, 0)
	for i, want := range []bool{false, false, true} {
		if done, e := r.Step(); done != want || e != 0 {
			t.Errorf("step %d: %v, %v", i, done, e)
		}
	}
	if l := values(t, r); !slices.Equal(l, []uint64{0, 0, 0, 0, 3, dom.Never}) || r.Count() != 6 || r.Steps() != 3 {
		t.Error(l)
	}
	r = domOf(t, g, 5)
	toEnd(t, r)
	if l := values(t, r); l[4] != 5 || l[0] != dom.Never || l[5] != 5 {
		t.Error(l)
	}
	x := files(g, 0, bv.Usual())
	for _, root := range []int{-1, 6} {
		if r, e := dom.New(space(60, 2), x.g, x.t, root); r != nil || e != api.ErrArg {
			t.Errorf("root %d: %v", root, e)
		}
	}
	for i, y := range []*given{{g: x.g, t: walked(g[:5], bv.Usual())}, {g: x.g, t: walked(make(api.Graph, 6), bv.Usual())}} {
		if r, e := dom.New(space(60, 2), y.g, y.t, 0); r != nil || e != api.ErrArg {
			t.Errorf("graphs %d: %v", i, e)
		}
	}
	if r, e := dom.New(space(60, 2), x.g, nil, -1); r != nil || e != api.ErrNil {
		t.Error("no graph")
	}
}

// P24.4: how many steps the search has, and the sweeps at most.
func TestDomSteps(t *testing.T) {
	rnd := rand.New(rand.NewSource(7))
	for range 80 {
		n := 1 + rnd.Intn(150)
		g, root := some(rnd, n, false), rnd.Intn(n)
		moves := 0
		for v := range reached(g, root, -1) {
			moves += len(g[v]) + 1
		}
		r := domOf(t, g, root)
		toEnd(t, r)
		search := (moves + 63) / 64
		if r.Steps() < search+1 || r.Steps() > search+n+2 {
			t.Fatalf("%d moves, %d steps", moves, r.Steps())
		}
		// nothing has a candidate until the search is over, but all have their number then
		q := domOf(t, g, root)
		for range search {
			q.Step()
		}
		text, _ := q.Save()
		if text[5] != 1 {
			t.Fatal("the search goes on")
		}
		q = domOf(t, g, root)
		for range search - 1 {
			q.Step()
		}
		if text, _ := q.Save(); text[5] != 0 {
			t.Fatal("the search is over too early")
		}
	}
}
