package runs

import (
	"math/rand"
	"strings"
	"testing"

	"wattle/api"
	"wattle/ball"
	"wattle/bfs"
	"wattle/blockdev"
	"wattle/bv"
	"wattle/catalog"
	"wattle/edges"
	"wattle/engine"
	"wattle/extent"
	"wattle/ingest"
	"wattle/jobs"
	"wattle/journal"
	"wattle/pool"
	"wattle/sorter"
	"wattle/stream"
	"wattle/vector"
)

// full is a device with graphs, results, jobs with checkpoints.
func full(t *testing.T, rnd *rand.Rand) *blockdev.Device {
	t.Helper()
	d, _ := blockdev.New(blockdev.Geometry{Blocks: 300, Sectors: 1})
	engine.Format(d, engine.Config{Log: 24})
	g, e := engine.Mount(d, engine.Options{Frames: 16, Every: 1, Budget: 4096})
	if e != api.OK {
		t.Fatal(e)
	}
	for i, name := range []string{"a", "b"} {
		x := some(rnd, 20+20*i, false)
		var l []api.Edge
		for v, succ := range x {
			for _, w := range succ {
				l = append(l, api.Edge{From: uint32(v), To: w})
			}
		}
		g.Import(name, len(x), edges.Show(l))
	}
	for i := range 12 {
		id, e := g.Submit(jobs.Spec{Kind: uint8(1 + i%6), Graph: "a", Result: "r" + string(rune('a'+i)), P: 4, Rounds: 30})
		if e != api.OK {
			t.Fatal(e)
		}
		for range 1 + 100*(i/6) {
			g.Step(id)
		}
	}
	return d
}

// R1: whatever stands on a device, each call of an engine on it ends, and none panics.
func TestOverwritten(t *testing.T) {
	rnd := rand.New(rand.NewSource(12))
	whole := full(t, rnd)
	for round := range 400 {
		d := whole.Twin()
		for range 1 + rnd.Intn(6) {
			n := 25 + rnd.Intn(80) // behind the journal
			if round%4 == 0 {
				n = rnd.Intn(120)
			}
			b := make([]byte, 1+rnd.Intn(4))
			rnd.Read(b)
			d.Corrupt(n, rnd.Intn(500), string(b))
		}
		g, e := engine.Mount(d, engine.Options{Frames: 8, Every: 2, Budget: 4096})
		if e != api.OK {
			continue
		}
		l, _ := g.List()
		for _, x := range l {
			g.Successors(x.Name, 1)
			g.Fetch(x.Name, 0, x.N)
		}
		ids, _ := g.Jobs()
		for _, id := range ids {
			for range 20 {
				g.Step(id)
			}
			g.Cancel(id)
			g.Forget(id)
		}
		g.Check()
		g.Import("c", 3, "0 1\n")
		for _, x := range l {
			g.Delete(x.Name, x.Result)
		}
		if st := g.Stats(); st.Pinned > 0 {
			t.Fatal("pinned")
		}
	}
}

// R1: objects that were made otherwise are handed in.
func TestMadeOtherwise(t *testing.T) {
	d := &blockdev.Device{}
	s, e := pool.New(d, 1, &extent.Map{})
	if e != api.OK {
		t.Fatal(e)
	}
	journal.Format(d, 0, 6)
	journal.Open(d, 0, 6)
	catalog.Format(d, catalog.Config{Log: 16})
	catalog.Mount(d, 4)
	engine.Mount(d, engine.Options{Frames: 4, Every: 1, Budget: 1})
	for _, x := range []api.Extent{{}, {Start: 0, Len: 1}} {
		stream.Create(s, x)
		stream.Open(s, x)
		s.Drop(x)
		s.Give(x)
	}
	s.Read(0)
	s.Write(0, "")
	s.Pin(0)
	s.Flush()
	s.Take(1)
	vector.New(s, 1, 1)
	ingest.Import(s, 3, "0 1\n", bv.Usual(), 100)
	x, _ := sorter.New(s, 8, 16, false)
	for range 5 {
		x.Add("12345678")
	}
	x.Sort()
	x.Next()
	x.Close()
	g := walked(api.Graph{{0}}, bv.Usual())
	bfs.New(s, g, 0)
	ball.New(s, g, 4, 1, 0)
	if _, e := engine.Mount(d, engine.Options{}); e == api.OK || !strings.Contains(e.Error(), "error") {
		t.Error("an engine of nothing")
	}
}
