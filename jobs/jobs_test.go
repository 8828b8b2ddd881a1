package jobs

import (
	"math/rand"
	"slices"
	"strings"
	"testing"

	"wattle/api"
	"wattle/ball"
	"wattle/bfs"
	"wattle/blockdev"
	"wattle/bv"
	"wattle/catalog"
	"wattle/core"
	"wattle/dom"
	"wattle/edges"
	"wattle/ef"
	"wattle/extent"
	"wattle/ingest"
	"wattle/pack"
	"wattle/pool"
	"wattle/scc"
	"wattle/tri"
	"wattle/walk"
)

func device(blocks int) *blockdev.Device {
	d, _ := blockdev.New(blockdev.Geometry{Blocks: blocks, Sectors: 1})
	catalog.Format(d, catalog.Config{Log: 24})
	return d
}

func mounted(t *testing.T, d *blockdev.Device, frames int) *catalog.Store {
	t.Helper()
	s, _, e := catalog.Mount(d, frames)
	if e != api.OK {
		t.Fatal(e)
	}
	return s
}

func opened(t *testing.T, s *catalog.Store, every int) *Table {
	t.Helper()
	x, e := Open(s, every)
	if e != api.OK {
		t.Fatal(e)
	}
	return x
}

func imported(t *testing.T, s *catalog.Store, name string, g api.Graph) {
	t.Helper()
	b, _, e := ingest.Import(s.Space(), len(g), edges.Show(listed(g)), bv.Usual(), 4096)
	if e == api.OK {
		e = s.Commit(catalog.Change{Put: []catalog.Entry{{Kind: Graph, Name: name, X: b.X}}})
	}
	if e != api.OK {
		t.Fatal(e)
	}
}

func listed(g api.Graph) []api.Edge {
	var l []api.Edge
	for v, succ := range g {
		for _, w := range succ {
			l = append(l, api.Edge{From: uint32(v), To: w})
		}
	}
	return l
}

func path() api.Graph { return api.Graph{{1}, {2}, {}} }

// P30.1 to P30.3: the chapter's examples.
func TestExamples(t *testing.T) {
	s := mounted(t, device(100), 4)
	imported(t, s, "g", path())
	x := opened(t, s, 100)
	for i, c := range []struct {
		x    Spec
		id   int
		want api.Errno
	}{{Spec{Kind: Bfs, Graph: "g", Result: "r"}, 1, 0}, {Spec{Kind: Bfs, Graph: "g", Result: "r"}, 0, api.ErrThere}, {Spec{Kind: 9}, 0, api.ErrKind}, {Spec{Kind: Bfs, Graph: "g", Result: "s", Root: 3}, 0, api.ErrArg}} {
		if id, e := x.Submit(c.x); id != c.id || e != c.want {
			t.Errorf("Submit %d: %d, %v", i, id, e)
		}
	}
	for i, c := range []struct {
		state uint8
		steps int
		want  api.Errno
	}{{Pending, 1, 0}, {Pending, 2, 0}, {Done, 3, 0}, {0, 0, api.ErrState}} {
		if y, e := x.Step(1); y.State != c.state || y.Steps != c.steps || e != c.want {
			t.Errorf("Step %d: %v, %v", i, y, e)
		}
	}
	if l, e := Values(s, "r", 0, 3); !slices.Equal(l, []uint64{0, 1, 2}) || e != 0 {
		t.Error(l, e)
	}
	for _, c := range [][2]int{{2, 2}, {-1, 1}, {0, -1}, {4, 0}, {1 << 62, 1 << 62}} {
		if l, e := Values(s, "r", c[0], c[1]); len(l) != 0 || e != api.ErrArg {
			t.Error(c, e)
		}
	}
	if l, e := Values(s, "r", 3, 0); len(l) != 0 || e != 0 {
		t.Error("none of them")
	}
	if l, _ := x.List(); !slices.Equal(l, []int{1}) || x.Forget(1) != 0 || x.Forget(1) != api.ErrNone {
		t.Error("Forget")
	}
	if l, e := x.List(); len(l) != 0 || e != 0 {
		t.Error("List")
	}
	if _, e := x.Submit(Spec{Kind: Bfs, Graph: "g", Result: "r"}); e != api.ErrThere {
		t.Error("the result stays")
	}
	if id, e := x.Submit(Spec{Kind: Tri, Graph: "g", Result: "q"}); id != 2 || e != 0 {
		t.Error("a number is never used again")
	}
}

// P30.2: the errors of all calls, in their order.
func TestRefused(t *testing.T) {
	s := mounted(t, device(200), 4)
	imported(t, s, "g", path())
	x := opened(t, s, 1)
	long := strings.Repeat("n", 64)
	for i, c := range []struct {
		x    Spec
		want api.Errno
	}{
		{Spec{Kind: 0}, api.ErrKind}, {Spec{Kind: 7}, api.ErrKind}, {Spec{Kind: Bfs, Result: "r"}, api.ErrName}, {Spec{Kind: Bfs, Graph: "z"}, api.ErrName}, {Spec{Kind: Bfs, Graph: long, Result: "r"}, api.ErrName}, {Spec{Kind: Bfs, Graph: "z", Result: long}, api.ErrName},
		{Spec{Kind: Bfs, Graph: "z", Result: "r", Root: -1}, api.ErrNone}, {Spec{Kind: Bfs, Graph: "g", Result: "r", Root: -1}, api.ErrArg}, {Spec{Kind: Dom, Graph: "g", Result: "r", Root: 3}, api.ErrArg},
		{Spec{Kind: Ball, Graph: "g", Result: "r", P: 3, Rounds: 1}, api.ErrArg}, {Spec{Kind: Ball, Graph: "g", Result: "r", P: 17, Rounds: 1}, api.ErrArg}, {Spec{Kind: Ball, Graph: "g", Result: "r", P: 4}, api.ErrArg}, {Spec{Kind: Ball, Graph: "g", Result: "r", P: 4, Rounds: 65}, api.ErrArg},
	} {
		if id, e := x.Submit(c.x); id != 0 || e != c.want {
			t.Errorf("Submit %d: %v", i, e)
		}
	}
	imported(t, s, long[:63], path())
	y := opened(t, s, MaxEvery)
	if id, e := y.Submit(Spec{Kind: Ball, Graph: long[:63], Result: long[:63], P: 16, Rounds: MaxRounds}); id != 1 || e != 0 {
		t.Error("the greatest numbers, the longest names", e)
	}
	if z, e := opened(t, s, 1).Status(1); z.Graph != long[:63] || z.Result != long[:63] || z.P != 16 || e != 0 {
		t.Error("the longest names", z, e)
	}
	if y.Cancel(1) != 0 || y.Forget(1) != 0 {
		t.Error("Cancel")
	}
	x = opened(t, s, 1)
	if id, e := x.Submit(Spec{Kind: Ball, Graph: "g", Result: "r", P: 4, Rounds: 1}); id != 2 || e != 0 || x.Cancel(2) != 0 || x.Forget(2) != 0 {
		t.Error("the least numbers", e)
	}
	spec := Spec{Kind: Core, Graph: "g", Result: "r", Root: -7, P: 99, Rounds: -1 << 63, Seed: 1<<64 - 1}
	id, e := x.Submit(spec)
	if y, f := x.Status(id); e != 0 || f != 0 || y != (Info{Id: 3, Spec: spec, State: Pending}) {
		t.Error("what is not needed is told back", y, e)
	}
	if _, e := x.Submit(Spec{Kind: Bfs, Graph: "g", Result: "r", Root: 9}); e != api.ErrThere {
		t.Error("a pending job has the name", e)
	}
	if x.Forget(3) != api.ErrState || !x.Uses("g") || x.Uses("r") || x.Cancel(3) != 0 || x.Uses("g") || x.Cancel(3) != api.ErrState {
		t.Error("Cancel")
	}
	if _, e := x.Step(3); e != api.ErrState {
		t.Error("a step of a cancelled job")
	}
	for _, id := range []int{0, 4, -1} {
		_, e := x.Step(id)
		if _, f := x.Status(id); e != api.ErrNone || f != api.ErrNone || x.Cancel(id) != api.ErrNone || x.Forget(id) != api.ErrNone {
			t.Errorf("job %d", id)
		}
	}
	for i := 4; ; i++ {
		id, e := x.Submit(Spec{Kind: Tri, Graph: "g", Result: "r" + string(rune('0'+i))})
		if e == api.ErrFull && i == MaxJobs+3 {
			break
		}
		if e != 0 || id != i {
			t.Fatal(i, id, e)
		}
	}
	if x.Forget(3) != 0 {
		t.Error("Forget")
	}
	if _, e := x.Submit(Spec{Kind: Tri, Graph: "g", Result: "s"}); e != 0 {
		t.Error("one more")
	}
	for _, x := range []*Table{nil, {}} {
		_, a := x.Submit(Spec{})
		_, b := x.Step(0)
		_, c := x.Status(0)
		_, d := x.List()
		if a != api.ErrNil || b != api.ErrNil || c != api.ErrNil || d != api.ErrNil || x.Cancel(0) != api.ErrNil || x.Forget(0) != api.ErrNil || x.Uses("g") {
			t.Error("a nil table")
		}
	}
	for _, s := range []*catalog.Store{nil, {}} {
		_, a := Open(s, 0)
		_, b := OpenGraph(s, "")
		if _, c := Values(s, "", 0, 0); a != api.ErrNil || b != api.ErrNil || c != api.ErrNil {
			t.Error("no store")
		}
	}
	for _, every := range []int{0, -1, MaxEvery + 1} {
		if x, e := Open(s, every); x != nil || e != api.ErrArg {
			t.Error("every", every)
		}
	}
	_, a := OpenGraph(s, long)
	_, b := OpenGraph(s, "z")
	_, c := Values(s, "z", 0, 0)
	if a != api.ErrName || b != api.ErrNone || c != api.ErrNone {
		t.Error("names")
	}
	if g, e := OpenGraph(s, "g"); e != 0 || g.N() != 3 || g.M() != 2 {
		t.Error("OpenGraph")
	}
}

// Entries of the table that are none.
func TestCorrupt(t *testing.T) {
	s := mounted(t, device(100), 4)
	imported(t, s, "g", path())
	x := opened(t, s, 1)
	x.Submit(Spec{Kind: Bfs, Graph: "g", Result: "r"})
	x.Step(1)
	opened(t, s, 1)
	job, _ := s.Get(Job, name(1))
	check, _ := s.Get(Checkpoint, name(1))
	count, _ := s.Get(Counter, counterName)
	for i, c := range []catalog.Entry{
		{Kind: Job, Name: "x", Data: job.Data}, {Kind: Job, Name: name(2), Data: job.Data}, {Kind: Job, Name: name(1), X: job.X, Data: "\x05" + job.Data[1:]}, {Kind: Job, Name: name(1), X: job.X, Data: "\x02" + job.Data[1:]},
		{Kind: Job, Name: name(1), X: job.X, Data: job.Data + "x"}, {Kind: Checkpoint, Name: name(2), Data: check.Data}, {Kind: Checkpoint, Name: name(1), X: check.X, Data: "x"},
		{Kind: Counter, Name: "x", Data: count.Data}, {Kind: Counter, Name: counterName, Data: "x"}, {Kind: Counter, Name: counterName, Data: name(0)},
	} {
		old, e := s.Get(c.Kind, c.Name)
		if s.Commit(catalog.Change{Put: []catalog.Entry{c}}) != 0 {
			t.Fatal(i)
		}
		if x, e := Open(s, 1); x != nil || e != api.ErrCorrupt {
			t.Errorf("entry %d: %v", i, e)
		}
		back := catalog.Change{Put: []catalog.Entry{old}}
		if e != 0 {
			back = catalog.Change{Delete: []catalog.Key{{Kind: c.Kind, Name: c.Name}}}
		}
		if s.Commit(back) != 0 {
			t.Fatal(i)
		}
	}
	opened(t, s, 1)
	s.Space().Flush()
	s.Space().Drop(job.X)
	s.Space().Device().Corrupt(job.X.Start, 1, "\x77")
	if _, e := Open(s, 1); e != api.ErrCorrupt {
		t.Error("a Spec that was overwritten")
	}
}

// direct is the result, and the steps, of a run that is stepped to its end.
func direct(t *testing.T, g api.Graph, x Spec) ([]uint64, int) {
	t.Helper()
	d, _ := blockdev.New(blockdev.Geometry{Blocks: 600, Sectors: 1})
	m, _ := extent.New(0, 600)
	s, _ := pool.New(d, 8, m)
	file := func(l []api.Edge) *walk.Graph {
		h, _ := edges.Group(len(g), l)
		text, _ := pack.Build(h, bv.Usual())
		w, _ := walk.From(ef.Text(text))
		return w
	}
	var back, both []api.Edge
	for _, e := range listed(g) {
		r := api.Edge{From: e.To, To: e.From}
		back = append(back, r)
		if e.From != e.To {
			both = append(both, e, r)
		}
	}
	w := file(listed(g))
	var r run
	var e api.Errno
	switch x.Kind {
	case Bfs:
		r, e = made(bfs.New(s, w, x.Root))
	case Scc:
		r, e = made(scc.New(s, w, file(back)))
	case Dom:
		r, e = made(dom.New(s, w, file(back), x.Root))
	case Core:
		r, e = made(core.New(s, file(both)))
	case Tri:
		r, e = made(tri.New(s, file(both)))
	case Ball:
		r, e = made(ball.New(s, w, x.P, x.Rounds, x.Seed))
	}
	if e != 0 {
		t.Fatal(e)
	}
	for steps := 1; ; steps++ {
		done, e := r.Step()
		if e != 0 {
			t.Fatal(e)
		}
		if !done {
			continue
		}
		var l []uint64
		for i := range r.Count() {
			v, _ := r.Value(i)
			l = append(l, v)
		}
		return l, steps
	}
}

func someGraph(rnd *rand.Rand, n int) api.Graph {
	var l []api.Edge
	for range rnd.Intn(3 * n) {
		l = append(l, api.Edge{From: uint32(rnd.Intn(n)), To: uint32(rnd.Intn(n))})
	}
	g, _ := edges.Group(n, l)
	return g
}

func someSpec(rnd *rand.Rand, n int, result string) Spec {
	return Spec{uint8(1 + rnd.Intn(6)), "g", result, rnd.Intn(n), 4 + rnd.Intn(2), 1 + rnd.Intn(9), rnd.Uint64()}
}

// P30.4, P30.6: whatever is picked, with mounts in between, the results are the definition's; no scratch is left.
func TestResults(t *testing.T) {
	rnd := rand.New(rand.NewSource(1))
	for range 25 {
		d := device(500)
		s := mounted(t, d, 2+rnd.Intn(5))
		n := 1 + rnd.Intn(30)
		g := someGraph(rnd, n)
		imported(t, s, "g", g)
		every := 1 + rnd.Intn(4)
		x := opened(t, s, every)
		room := s.Space().Map().Room()
		specs := map[int]Spec{}
		steps := map[int]int{}
		for i := range 1 + rnd.Intn(5) {
			y := someSpec(rnd, n, string(rune('a'+i)))
			id, e := x.Submit(y)
			if e != 0 {
				t.Fatal(e)
			}
			specs[id] = y
		}
		left := len(specs)
		for left > 0 {
			if rnd.Intn(12) == 0 {
				s = mounted(t, d, 1+rnd.Intn(5))
				x = opened(t, s, every)
				for id := range specs {
					y, _ := x.Status(id)
					if y.State == Pending && y.Steps != steps[id]/every*every {
						t.Fatalf("%d steps behind a mount, not %d", y.Steps, steps[id]/every*every)
					}
					steps[id] = y.Steps
				}
			}
			id := 1 + rnd.Intn(len(specs))
			y, e := x.Step(id)
			if e == api.ErrState {
				continue
			}
			steps[id]++
			if e != 0 || y.Steps != steps[id] || y.Spec != specs[id] || s.Check() != 0 || s.Space().Stats().Most > 0 {
				t.Fatal(y, e)
			}
			if y.State == Done {
				left--
				want, made := direct(t, g, specs[id])
				if l, e := Values(s, specs[id].Result, 0, len(want)); !slices.Equal(l, want) || e != 0 || y.Steps != made {
					t.Fatalf("%v: %v in %d steps, not %v in %d", specs[id], l, y.Steps, want, made)
				}
				if _, e := Values(s, specs[id].Result, 0, len(want)+1); e != api.ErrArg {
					t.Fatal("more values")
				}
			}
		}
		for id := range specs {
			if x.Forget(id) != 0 || s.Commit(catalog.Change{Delete: []catalog.Key{{Kind: Result, Name: specs[id].Result}}}) != 0 {
				t.Fatal("Forget")
			}
		}
		if got := s.Space().Map().Room(); got < room-1 || s.Check() != 0 {
			t.Fatalf("room %d, not %d", got, room)
		}
	}
}

// fillUp takes all blocks but so many, and tells how they are given back.
func fillUp(s *catalog.Store, but int) func() {
	var l []api.Extent
	for s.Space().Map().Room() > but {
		x, _ := s.Space().Take(1)
		l = append(l, x)
	}
	return func() {
		for _, x := range l {
			s.Space().Give(x)
		}
	}
}

// P30.3: no room for the result: the job has made no step more, and the next Step tries again.
func TestNoRoom(t *testing.T) {
	s := mounted(t, device(120), 4)
	g := make(api.Graph, 200)
	for v := range g {
		g[v] = []uint32{uint32((v + 1) % 200)}
	}
	imported(t, s, "g", g)
	x := opened(t, s, 1000)
	for _, kind := range []uint8{Bfs, Scc, Dom, Core, Ball, Tri} {
		id, e := x.Submit(Spec{Kind: kind, Graph: "g", Result: "r", P: 4, Rounds: 1})
		if e != 0 {
			t.Fatal(e)
		}
		room := s.Space().Map().Room()
		give := fillUp(s, 3)
		if _, e := x.Step(id); kind != Bfs && kind != Tri && (e != api.ErrFull || s.Space().Map().Room() != 3) {
			t.Errorf("kind %d: no room for a run: %v", kind, e)
		}
		give()
		want, steps := direct(t, g, Spec{Kind: kind, P: 4, Rounds: 1})
		y, _ := x.Status(id)
		for y.Steps < steps-1 {
			if y, e = x.Step(id); e != 0 || y.State != Pending {
				t.Fatal(y, e)
			}
		}
		if y.Steps == 0 && x.runs[id] == nil { // the run is made ahead of its only step: else the last one would be refused by that
			x.runs[id], _ = x.begin(x.jobs[id])
		}
		give = fillUp(s, 0)
		for range 3 {
			if z, e := x.Step(id); e != api.ErrFull || z != (Info{}) {
				t.Fatalf("kind %d: no room for the result: %v", kind, e)
			}
			if z, _ := x.Status(id); z != y {
				t.Fatal("a step more")
			}
		}
		give()
		y, e = x.Step(id)
		if l, f := Values(s, "r", 0, len(want)); e != 0 || f != 0 || y.State != Done || y.Steps != steps || !slices.Equal(l, want) {
			t.Fatalf("kind %d: %v, %v", kind, y, e)
		}
		if x.Forget(id) != 0 || s.Commit(catalog.Change{Delete: []catalog.Key{{Kind: Result, Name: "r"}}}) != 0 || s.Space().Map().Room() != room+1 {
			t.Fatalf("kind %d: room %d of %d", kind, s.Space().Map().Room(), room)
		}
	}
	// no room for a checkpoint: the job goes on
	x = opened(t, s, 1)
	id, _ := x.Submit(Spec{Kind: Bfs, Graph: "g", Result: "r"})
	x.Step(id)
	fillUp(s, 0)
	if y, e := x.Step(id); e != 0 || y.Steps != 2 {
		t.Error(y, e)
	}
	d := s.Space().Device()
	s.Space().Flush()
	s = mounted(t, d, 4)
	if y, _ := opened(t, s, 1).Status(id); y.Steps != 1 {
		t.Error("the checkpoint of before", y)
	}
}

// P30.3: a run whose Step answers ErrOver has failed; one that answers another error is gone.
func TestFailed(t *testing.T) {
	s := mounted(t, device(120), 4)
	imported(t, s, "g", api.Graph{{1, 2}, {2}, {}})
	x := opened(t, s, 1)
	id, _ := x.Submit(Spec{Kind: Tri, Graph: "g", Result: "r"})
	r, e := x.begin(x.jobs[id])
	if e != 0 || r.Load("\x00\x00\x00\x00\x00\xff\xff\xff\xff\xff\xff\xff\xff") != 0 {
		t.Fatal(e)
	}
	x.runs[id] = r
	if y, e := x.Step(id); e != 0 || y.State != Failed || y.Code != api.ErrOver {
		t.Error(y, e)
	}
	s = mounted(t, s.Space().Device(), 4)
	x = opened(t, s, 1)
	if y, _ := x.Status(id); y.State != Failed || y.Code != api.ErrOver {
		t.Error("behind a mount", y)
	}
	if _, e := s.Get(Result, "r"); e != api.ErrNone || x.Forget(id) != 0 {
		t.Error("it has no result")
	}
	id, _ = x.Submit(Spec{Kind: Bfs, Graph: "g", Result: "r"})
	x.every = 2
	x.Step(id)
	for i := range 4 {
		s.Space().Pin(100 + i)
	}
	if y, e := x.Step(id); e != api.ErrMemory || y != (Info{}) {
		t.Error(y, e)
	}
	if y, _ := x.Status(id); y.Steps != 0 || len(x.runs) != 0 {
		t.Error("the run is gone", y)
	}
}

func crash(rnd *rand.Rand) blockdev.Crash {
	c := blockdev.Crash{Torn: rnd.Intn(24) - 1, Mask: uint8(rnd.Intn(256))}
	for i := range 40 {
		if rnd.Intn(2) == 0 {
			c.Keep = append(c.Keep, i)
		}
	}
	return c
}

// P30.5: behind a crash at any call all jobs are there, as they were, or as the call under way was to make them.
func TestCrashes(t *testing.T) {
	rnd := rand.New(rand.NewSource(2))
	for range 40 {
		d := device(300)
		s := mounted(t, d, 4)
		n := 2 + rnd.Intn(20)
		g := someGraph(rnd, n)
		imported(t, s, "g", g)
		s.Space().Flush()
		x := opened(t, s, 2)
		jobs := map[int]Info{}
		for round := range 12 {
			d.Plan(1+rnd.Intn(150), crash(rnd))
			var under int // the job of the call under way
			call := ""
			for i := 0; !d.Down() && i < 60; i++ {
				under, call = 0, ""
				for id := range jobs {
					if rnd.Intn(len(jobs)) == 0 {
						under = id
					}
				}
				var e api.Errno
				switch r := rnd.Intn(10); {
				case r == 0 || len(jobs) == 0:
					call = "submit"
					y := someSpec(rnd, n, string(rune('a'+rnd.Intn(26))))
					if under, e = x.Submit(y); e == 0 {
						jobs[under], _ = x.Status(under)
					} else if e == api.ErrDown {
						under = 0
					}
				case r == 1 && under > 0:
					call = "cancel"
					if e = x.Cancel(under); e == 0 {
						jobs[under], _ = x.Status(under)
					}
				case r == 2 && under > 0:
					call = "forget"
					if e = x.Forget(under); e == 0 {
						delete(jobs, under)
					}
				case under > 0:
					call = "step"
					if y, f := x.Step(under); f == 0 {
						jobs[under] = y
					}
				}
			}
			if !d.Down() {
				d.Pull(crash(rnd))
				under, call = 0, ""
			}
			d.Restart()
			s = mounted(t, d, 1+rnd.Intn(6))
			x = opened(t, s, 2)
			if s.Check() != 0 {
				t.Fatal("Check")
			}
			l, _ := x.List()
			for id, was := range jobs {
				y, e := x.Status(id)
				if e != 0 && id == under && call == "forget" {
					delete(jobs, id)
					continue
				}
				same := y.State == was.State && (y.Steps == was.Steps || y.State == Pending && y.Steps < was.Steps)
				moved := id == under && was.State == Pending && (call == "step" && (y.State == Done || y.State == Pending && y.Steps == was.Steps+1) || call == "cancel" && y.State == Cancelled)
				if e != 0 || y.Spec != was.Spec || !same && !moved {
					t.Fatalf("round %d, %s: %v was %v: %v", round, call, y, was, e)
				}
				jobs[id] = y
				want, steps := direct(t, g, y.Spec)
				values, f := Values(s, y.Result, 0, len(want))
				if y.State == Done && (f != 0 || !slices.Equal(values, want) || y.Steps != steps) {
					t.Fatal("a result", y, f)
				}
				if y.State == Pending && f != api.ErrNone {
					t.Fatal("a result of a pending job")
				}
			}
			for _, id := range l {
				if _, ok := jobs[id]; !ok {
					if call != "submit" {
						t.Fatal("a job from nowhere")
					}
					jobs[id], _ = x.Status(id)
				}
			}
		}
	}
}
