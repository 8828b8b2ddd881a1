package runs

import (
	"math/rand"
	"slices"
	"testing"

	"wattle/api"
	"wattle/bv"
	"wattle/core"
	"wattle/num"
)

// P25.1, P25.2: the chapter's examples.
func TestCore(t *testing.T) {
	g := api.Graph{{1, 2}, {0, 2}, {0, 1, 3}, {2}, {}}
	s := space(20, 2)
	r, e := core.New(s, walked(g, bv.Usual()))
	if e != 0 {
		t.Fatal(e)
	}
	text, _ := r.Save()
	if want := num.Text(0, 8) + "\x00" + num.Text(2, 4) + num.Text(2, 4) + num.Text(3, 4) + num.Text(1, 4) + num.Text(0, 4); text != want {
		t.Errorf("%x", text)
	}
	for i, want := range []bool{false, false, false, false, true} {
		if done, e := r.Step(); done != want || e != 0 {
			t.Errorf("step %d: %v, %v", i, done, e)
		}
	}
	if l := values(t, r); !slices.Equal(l, []uint64{2, 2, 2, 1, 0}) || r.Steps() != 5 {
		t.Error(l)
	}
	text, _ = r.Save()
	if text[:13] != "\x00\x00\x00\x05\x01\x00\x00\x00\x02\x80\x00\x00\x02" {
		t.Errorf("%x", text)
	}
	for i, x := range []struct {
		steps, level uint64
		want         api.Errno
	}{{12, 6, 0}, {13, 0, api.ErrForm}, {0, 7, api.ErrForm}} {
		if e := r.Load(num.Text(x.steps, 4) + "\x00" + num.Text(x.level, 4) + text[9:]); e != x.want {
			t.Errorf("text %d: %v", i, e)
		}
	}
	r, _ = core.New(s, walked(nil, bv.Usual()))
	if done, e := r.Step(); !done || e != 0 {
		t.Error("no vertices")
	}
}

// Of graphs that are not symmetrised: what the steps say.
func TestCoreOthers(t *testing.T) {
	rnd := rand.New(rand.NewSource(8))
	for range 60 {
		g := some(rnd, 1+rnd.Intn(40), false)
		r, _ := core.New(space(20, 2), walked(g, bv.Usual()))
		toEnd(t, r)
		if r.Steps() != peelings(g, 0) {
			t.Fatalf("%v: %d steps, not %d", g, r.Steps(), peelings(g, 0))
		}
	}
}

// P25.3, P25.5: bounds of steps; as many neighbours that lie as deep.
func TestCoreFollows(t *testing.T) {
	rnd := rand.New(rand.NewSource(9))
	for range 60 {
		g := some(rnd, 1+rnd.Intn(60), true)
		s := space(20, 2)
		r, _ := core.New(s, walked(g, bv.Usual()))
		toEnd(t, r)
		l := values(t, r)
		for v := range g {
			n := uint64(0)
			for _, w := range g[v] {
				if l[w] >= l[v] {
					n++
				}
			}
			if n < l[v] {
				t.Fatal("too few neighbours")
			}
		}
		if r.Steps() > 2*len(g)+1 || s.Stats().Most > 0 {
			t.Fatal("steps")
		}
	}
}
