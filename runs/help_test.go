// Package runs has the tests of all kinds of runs: what they promise alike stands in runs_test.go, what each of them tells beside it in a file of its own.
package runs

import (
	"math/rand"
	"slices"
	"testing"

	"wattle/api"
	"wattle/blockdev"
	"wattle/bv"
	"wattle/ef"
	"wattle/extent"
	"wattle/pack"
	"wattle/pool"
	"wattle/walk"
)

// run is what all runs can.
type run interface {
	Step() (bool, api.Errno)
	Steps() int
	Save() (string, api.Errno)
	Load(string) api.Errno
	Count() int
	Value(int) (uint64, api.Errno)
	Close() api.Errno
}

// given is of what a run is made.
type given struct {
	g, t *walk.Graph
	root int
}

func space(blocks, frames int) *pool.Space {
	d, _ := blockdev.New(blockdev.Geometry{Blocks: blocks, Sectors: 1})
	m, _ := extent.New(0, blocks)
	s, _ := pool.New(d, frames, m)
	return s
}

func walked(g api.Graph, p bv.Params) *walk.Graph {
	s, _ := pack.Build(g, p)
	w, _ := walk.From(ef.Text(s))
	return w
}

func turned(g api.Graph) api.Graph {
	t := make(api.Graph, len(g))
	for v, l := range g {
		for _, w := range l {
			t[w] = append(t[w], uint32(v))
		}
	}
	return t
}

func files(g api.Graph, root int, p bv.Params) given {
	return given{walked(g, p), walked(turned(g), p), root}
}

func tidy(g api.Graph) {
	for v := range g {
		slices.Sort(g[v])
		g[v] = slices.Compact(g[v])
	}
}

// some is a graph of n vertices; symmetrised, if both.
func some(rnd *rand.Rand, n int, both bool) api.Graph {
	g := make(api.Graph, n)
	add := func(v, w int) {
		if both && v == w {
			return
		}
		g[v] = append(g[v], uint32(w))
		if both {
			g[w] = append(g[w], uint32(v))
		}
	}
	dense := 1 + rnd.Intn(3)
	for v := range g {
		if rnd.Intn(3) > 0 {
			add(v, (v+1)%n)
		}
		for range rnd.Intn(2 * dense) {
			add(v, rnd.Intn(n))
		}
	}
	tidy(g)
	return g
}

func values(t *testing.T, r run) []uint64 {
	t.Helper()
	l := []uint64{}
	for i := range r.Count() {
		v, e := r.Value(i)
		if e != api.OK {
			t.Fatal(e)
		}
		l = append(l, v)
	}
	return l
}

// toEnd makes all steps that are left.
func toEnd(t *testing.T, r run) {
	t.Helper()
	for range 100000 {
		done, e := r.Step()
		if e != api.OK {
			t.Fatal(e)
		}
		if done {
			return
		}
	}
	t.Fatal("no end")
}
