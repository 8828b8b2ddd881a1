package runs

import (
	"math/rand"
	"slices"
	"testing"

	"wattle/api"
	"wattle/bv"
	"wattle/num"
	"wattle/scc"
)

func sccOf(t *testing.T, g api.Graph) *scc.Run {
	t.Helper()
	x := files(g, 0, bv.Usual())
	r, e := scc.New(space(40, 2), x.g, x.t)
	if e != api.OK {
		t.Fatal(e)
	}
	return r
}

// P23.1, P23.2: the chapter's examples: the phase ahead of each step, and the labels.
func TestScc(t *testing.T) {
	r := sccOf(t, api.Graph{{1}, {2}, {0, 3}, {4}, {3}})
	var phases []byte
	for done := false; !done; {
		text, _ := r.Save()
		phases = append(phases, text[4])
		done, _ = r.Step()
	}
	if !slices.Equal(phases, []byte{0, 1, 1, 2, 2, 2, 0, 1, 1, 2, 2}) {
		t.Error(phases)
	}
	if l := values(t, r); !slices.Equal(l, []uint64{0, 0, 0, 3, 3}) {
		t.Error(l)
	}
	r = sccOf(t, api.Graph{{1}, {2}, {}})
	toEnd(t, r)
	if l := values(t, r); r.Steps() != 1 || !slices.Equal(l, []uint64{0, 1, 2}) {
		t.Error(r.Steps(), l)
	}
	r = sccOf(t, nil)
	if done, e := r.Step(); !done || e != 0 || r.Count() != 0 {
		t.Error("no vertices")
	}
	r = sccOf(t, api.Graph{{1}, {0}})
	text, _ := r.Save()
	if want := "\x00\x00\x00\x00\x00\x00" + "\xff\xff\xff\xff\xff\xff\xff\xff" + num.Text(0, 8) + "\x00\x00"; text != want {
		t.Errorf("%x", text)
	}
	for i, bad := range []string{text[:4] + "\x03" + text[5:], text[:5] + "\x02" + text[6:], text[:5]} {
		if r.Load(bad) != api.ErrForm {
			t.Errorf("text %d", i)
		}
	}
	if e := r.Load("\xff\xff\xff\xff\x00\x01" + text[6:]); e != 0 || r.Steps() != 1<<32-1 {
		t.Error("any number of steps")
	}
	if v, e := r.Value(1); v != 1<<32-1 || e != 0 {
		t.Error("no label")
	}
}

// The graphs have as many vertices, and as many edges.
func TestSccGraphs(t *testing.T) {
	a, b, c := walked(api.Graph{{1}, {}}, bv.Usual()), walked(api.Graph{{1}, {}, {}}, bv.Usual()), walked(api.Graph{{}, {}}, bv.Usual())
	for i, x := range []given{{g: a, t: b}, {g: a, t: c}} {
		if r, e := scc.New(space(20, 2), x.g, x.t); r != nil || e != api.ErrArg {
			t.Errorf("graphs %d: %v", i, e)
		}
	}
	if r, e := scc.New(space(20, 2), a, nil); r != nil || e != api.ErrNil {
		t.Error("no graph")
	}
}

// P23.5: bounds of steps; graphs without rings; turned round.
func TestSccFollows(t *testing.T) {
	rnd := rand.New(rand.NewSource(6))
	for range 60 {
		n := 1 + rnd.Intn(30)
		g := some(rnd, n, false)
		r, u := sccOf(t, g), sccOf(t, turned(g))
		toEnd(t, r)
		toEnd(t, u)
		if r.Steps() > (n+2)*(n+2) || !slices.Equal(values(t, r), values(t, u)) {
			t.Fatal("turned round")
		}
		for v := range g {
			g[v] = slices.DeleteFunc(g[v], func(w uint32) bool { return int(w) < v })
		}
		r = sccOf(t, g)
		for done := false; !done; {
			text, _ := r.Save()
			if text[4] != 0 {
				t.Fatal("a graph without rings, and another phase")
			}
			done, _ = r.Step()
		}
	}
}
