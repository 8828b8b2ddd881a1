package runs

import (
	"math/rand"
	"testing"

	"wattle/api"
	"wattle/bv"
	"wattle/num"
	"wattle/tri"
)

// P26.1, P26.2, P26.5: the chapter's examples.
func TestTri(t *testing.T) {
	g := walked(api.Graph{{1, 2}, {0, 2, 3}, {0, 1, 3}, {1, 2}}, bv.Usual())
	s := space(20, 2)
	r, e := tri.New(s, g)
	if e != 0 || r.Count() != 1 {
		t.Fatal(e)
	}
	if done, e := r.Step(); !done || e != 0 || r.Steps() != 1 {
		t.Error("Step")
	}
	if v, e := r.Value(0); v != 2 || e != 0 {
		t.Error("Value")
	}
	if _, e := r.Value(1); e != api.ErrArg {
		t.Error("Value(1)")
	}
	if text, _ := r.Save(); text != "\x00\x00\x00\x01\x01"+num.Text(2, 8) {
		t.Errorf("%x", text)
	}
	full := "\x00\x00\x00\x00\x00\xff\xff\xff\xff\xff\xff\xff\xff"
	if r.Load(full) != 0 {
		t.Error("Load")
	}
	if done, e := r.Step(); done || e != api.ErrOver {
		t.Error("a count of 2^64")
	}
	if _, e := r.Step(); e != api.ErrState {
		t.Error("broken")
	}
	r, _ = tri.New(s, g)
	if r.Load(full[:12]+"\xfd") != 0 {
		t.Error("Load")
	}
	if _, e := r.Step(); e != 0 {
		t.Error("a count of 2^64 - 1")
	}
	if v, _ := r.Value(0); v != 1<<64-1 {
		t.Error("the greatest count")
	}
	for i, x := range []struct {
		text string
		want api.Errno
	}{{full[:12], api.ErrForm}, {full + "x", api.ErrForm}, {"\x00\x00\x00\x02" + full[4:], 0}, {"\x00\x00\x00\x03" + full[4:], api.ErrForm}, {full[:4] + "\x02" + full[5:], api.ErrForm}} {
		if e := r.Load(x.text); e != x.want {
			t.Errorf("text %d: %v", i, e)
		}
	}
	r, _ = tri.New(s, walked(nil, bv.Usual()))
	if done, e := r.Step(); !done || e != 0 {
		t.Error("no vertices")
	}
	if v, e := r.Value(0); v != 0 || e != 0 {
		t.Error("no triangles")
	}
}

// Of graphs that are not symmetrised: what the steps say.
func TestTriOthers(t *testing.T) {
	rnd := rand.New(rand.NewSource(10))
	for range 60 {
		g := some(rnd, 1+rnd.Intn(60), false)
		higher := func(v int) map[uint32]bool {
			l := map[uint32]bool{}
			for _, w := range g[v] {
				if len(g[w]) > len(g[v]) || len(g[w]) == len(g[v]) && int(w) > v {
					l[w] = true
				}
			}
			return l
		}
		want := uint64(0)
		for u := range g {
			for v := range higher(u) {
				for w := range higher(u) {
					if higher(int(v))[w] {
						want++
					}
				}
			}
		}
		r, _ := tri.New(space(20, 2), walked(g, bv.Usual()))
		toEnd(t, r)
		if v, _ := r.Value(0); v != want {
			t.Fatalf("%v: %d, not %d", g, v, want)
		}
	}
}
