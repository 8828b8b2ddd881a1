package engine

import (
	"slices"
	"strings"
	"testing"

	"wattle/api"
	"wattle/blockdev"
	"wattle/jobs"
	"wattle/pool"
	"wattle/sorter"
)

func device(t *testing.T, blocks int) *blockdev.Device {
	t.Helper()
	d, e := blockdev.New(blockdev.Geometry{Blocks: blocks, Sectors: 1})
	if e == api.OK {
		e = Format(d, Config{24})
	}
	if e != api.OK {
		t.Fatal(e)
	}
	return d
}

func mounted(t *testing.T, d *blockdev.Device, o Options) *Engine {
	t.Helper()
	g, e := Mount(d, o)
	if e != api.OK {
		t.Fatal(e)
	}
	return g
}

func imports(t *testing.T, g *Engine, name string, n int, text string, want Imported, e api.Errno) {
	t.Helper()
	if got, f := g.Import(name, n, text); got != want || f != e {
		t.Errorf("Import(%q, %d, %q): %v, %v", name, n, text, got, f)
	}
}

func fetches(t *testing.T, g *Engine, name string, want ...uint64) {
	t.Helper()
	if l, e := g.Fetch(name, 0, len(want)); !slices.Equal(l, want) || e != 0 {
		t.Errorf("Fetch(%q): %v, %v", name, l, e)
	}
}

// toEnd steps a job until it is not pending.
func toEnd(t *testing.T, g *Engine, id int) jobs.Info {
	t.Helper()
	for range 10000 {
		x, e := g.Step(id)
		if e != 0 {
			t.Fatal(e)
		}
		if x.State != jobs.Pending {
			return x
		}
	}
	t.Fatal("no end")
	return jobs.Info{}
}

// P31.1 to P31.3: the chapter's examples.
func TestChapter(t *testing.T) {
	g := mounted(t, device(t, 400), Options{8, 2, 65536})
	imports(t, g, "g", 4, "0 1\n1 2\n2 0\n", Imported{4, 3, 0}, 0)
	imports(t, g, "g", 4, "", Imported{}, api.ErrThere)
	imports(t, g, "h", 2, "0 1\n0 2\n", Imported{0, 0, 2}, api.ErrEdge)
	for _, c := range []struct {
		name string
		v    int
		want []uint32
		e    api.Errno
	}{{"g", 2, []uint32{0}, 0}, {"g", 4, nil, api.ErrArg}, {"g", -1, nil, api.ErrArg}, {"x", 0, nil, api.ErrNone}, {"", 0, nil, api.ErrName}} {
		if l, e := g.Successors(c.name, c.v); !slices.Equal(l, c.want) || e != c.e {
			t.Errorf("Successors(%q, %d): %v, %v", c.name, c.v, l, e)
		}
	}
	if id, e := g.Submit(jobs.Spec{Kind: jobs.Scc, Graph: "g", Result: "r"}); id != 1 || e != 0 || g.Delete("g", false) != api.ErrState {
		t.Error("Submit")
	}
	toEnd(t, g, 1)
	fetches(t, g, "r", 0, 0, 0, 3)
	if g.Delete("g", false) != 0 || g.Check() != 0 {
		t.Error("Delete")
	}
	if l, e := g.List(); !slices.Equal(l, []Item{{"r", true, 4, 0}}) || e != 0 {
		t.Error(l, e)
	}
}

// DOC.md's ten examples of the whole.
func TestTen(t *testing.T) {
	d := device(t, 600)
	o := Options{8, 2, 4096}
	g := mounted(t, d, o)
	never := uint64(1<<64 - 1)
	imports(t, g, "g", 6, "0 1\n1 2\n2 0\n2 3\n3 4\n", Imported{6, 5, 0}, 0)
	if l, e := g.Successors("g", 2); !slices.Equal(l, []uint32{0, 3}) || e != 0 {
		t.Error("1", l, e)
	}
	imports(t, g, "bad", 6, "0 1\n0 6\n", Imported{Line: 2}, api.ErrEdge)
	if l, _ := g.List(); !slices.Equal(l, []Item{{"g", false, 6, 5}}) {
		t.Error("2", l)
	}
	id, e := g.Submit(jobs.Spec{Kind: jobs.Bfs, Graph: "g", Result: "far"})
	for i := range 5 {
		x, f := g.Step(1)
		if id != 1 || e != 0 || f != 0 || x.Steps != i+1 || (x.State == jobs.Done) != (i == 4) {
			t.Error("3", x, f)
		}
	}
	fetches(t, g, "far", 0, 1, 2, 3, 4, never)
	if id, e := g.Submit(jobs.Spec{Kind: jobs.Scc, Graph: "g", Result: "parts"}); id != 2 || e != 0 {
		t.Error("4", id, e)
	}
	g.Step(2)
	g.Step(2)
	d.Pull(blockdev.Crash{Torn: -1})
	d.Restart()
	g = mounted(t, d, o)
	if x, e := g.Status(2); x.State != jobs.Pending || x.Steps != 2 || e != 0 {
		t.Error("4", x, e)
	}
	toEnd(t, g, 2)
	fetches(t, g, "parts", 0, 0, 0, 3, 4, 5)
	g.Submit(jobs.Spec{Kind: jobs.Dom, Graph: "g", Result: "dom", Root: 1})
	toEnd(t, g, 3)
	fetches(t, g, "dom", 2, 1, 1, 2, 3, never)
	g.Submit(jobs.Spec{Kind: jobs.Core, Graph: "g", Result: "core"})
	g.Submit(jobs.Spec{Kind: jobs.Tri, Graph: "g", Result: "tri"})
	for range 40 {
		g.Step(4)
		g.Step(5)
	}
	fetches(t, g, "core", 2, 2, 2, 1, 1, 0)
	fetches(t, g, "tri", 1)
	if _, e := g.Fetch("tri", 0, 2); e != api.ErrArg {
		t.Error("6", e)
	}
	g.Submit(jobs.Spec{Kind: jobs.Bfs, Graph: "g", Result: "again"})
	if g.Delete("g", false) != api.ErrState || g.Cancel(6) != 0 || g.Delete("g", false) != 0 {
		t.Error("7")
	}
	for at := 1; at < 12; at++ {
		d.Plan(at, blockdev.Crash{Keep: []int{0, 2}, Torn: 1, Mask: 1})
		if _, e := g.Import("h", 3, "0 1\n"); e == api.ErrDown {
			d.Restart()
			g = mounted(t, d, o)
		}
		d.Plan(0, blockdev.Crash{})
		l, _ := g.List()
		if g.Check() != 0 || len(l) != 5 && (len(l) != 6 || l[0] != Item{"h", false, 3, 1}) {
			t.Error("8", at, l)
		}
		g.Delete("h", false)
	}
	for _, name := range []string{"far", "parts", "dom", "core", "tri"} {
		if g.Delete(name, true) != 0 {
			t.Error("10", name)
		}
	}
	l, _ := g.Jobs()
	for _, id := range l {
		if g.Forget(id) != 0 {
			t.Error("10", id)
		}
	}
	items, _ := g.List()
	if l, _ := g.Jobs(); len(items)+len(l) != 0 || g.Check() != 0 {
		t.Error("10")
	}
}

// The ninth of them: no room.
func TestNoRoom(t *testing.T) {
	g := mounted(t, device(t, 60), Options{8, 2, 4096})
	imports(t, g, "small", 2, "0 1\n", Imported{2, 1, 0}, 0)
	var b strings.Builder
	for range 4000 {
		b.WriteString("0 1\n")
	}
	imports(t, g, "g", 60000, b.String(), Imported{}, api.ErrFull)
	if l, e := g.List(); !slices.Equal(l, []Item{{"small", false, 2, 1}}) || e != 0 || g.Check() != 0 {
		t.Error(l, e)
	}
	imports(t, g, "g", 100, b.String(), Imported{100, 1, 0}, 0)
}

// The errors of Mount, of nil engines, of names.
func TestRefused(t *testing.T) {
	d := device(t, 100)
	for i, c := range []struct {
		o    Options
		want api.Errno
	}{
		{Options{4, 1, 1}, 0}, {Options{pool.MaxFrames, jobs.MaxEvery, sorter.MaxBudget}, 0}, {Options{3, 1, 1}, api.ErrArg}, {Options{pool.MaxFrames + 1, 1, 1}, api.ErrArg}, {Options{4, 0, 1}, api.ErrArg},
		{Options{4, jobs.MaxEvery + 1, 1}, api.ErrArg}, {Options{4, 1, 0}, api.ErrArg}, {Options{4, 1, sorter.MaxBudget + 1}, api.ErrArg},
	} {
		if g, e := Mount(d, c.o); e != c.want || (g == nil) != (e != 0) {
			t.Errorf("options %d: %v", i, e)
		}
	}
	if g, e := Mount(nil, Options{}); g != nil || e != api.ErrNil || Format(nil, Config{}) != api.ErrNil || Format(d, Config{15}) != api.ErrArg {
		t.Error("no device")
	}
	raw, _ := blockdev.New(blockdev.Geometry{Blocks: 100, Sectors: 1})
	if g, e := Mount(raw, Options{4, 1, 1}); g != nil || e != api.ErrForm {
		t.Error("no store")
	}
	for _, g := range []*Engine{nil, {}} {
		_, a := g.Import("", -1, "x")
		_, b := g.List()
		_, c := g.Successors("", 0)
		_, f := g.Submit(jobs.Spec{})
		_, h := g.Step(0)
		_, i := g.Status(0)
		_, j := g.Jobs()
		_, k := g.Fetch("", 0, 0)
		for n, e := range []api.Errno{a, b, c, f, h, i, j, k, g.Delete("", true), g.Cancel(0), g.Forget(0), g.Check()} {
			if e != api.ErrNil {
				t.Errorf("call %d of a nil engine: %v", n, e)
			}
		}
		if g.Stats() != (pool.Stats{}) {
			t.Error("Stats")
		}
	}
	g := mounted(t, d, Options{4, 1, 1535})
	long := strings.Repeat("n", 64)
	imports(t, g, "", -1, "x", Imported{}, api.ErrName)
	imports(t, g, long, -1, "x", Imported{}, api.ErrName)
	imports(t, g, "g", -1, "x", Imported{}, api.ErrArg)
	imports(t, g, "g", 1, "0 0", Imported{}, api.ErrMemory)
	for _, result := range []bool{true, false} {
		if g.Delete("g", result) != api.ErrNone || g.Delete(long, result) != api.ErrName {
			t.Error("Delete")
		}
	}
	before := d.Reads()
	calls := d.Calls()
	g.Status(1)
	g.Jobs()
	if d.Reads() != before || d.Calls() != calls {
		t.Error("Status and Jobs ask the device")
	}
}

// A dead engine: behind an ErrDown, and when its device has gone down, be it up again.
func TestDead(t *testing.T) {
	d := device(t, 100)
	g := mounted(t, d, Options{4, 1, 4096})
	dead := func() {
		t.Helper()
		_, a := g.Import("", -1, "x")
		_, b := g.List()
		_, c := g.Successors("", 0)
		_, f := g.Submit(jobs.Spec{})
		_, h := g.Step(0)
		_, i := g.Status(0)
		_, j := g.Jobs()
		_, k := g.Fetch("", 0, 0)
		for n, e := range []api.Errno{a, b, c, f, h, i, j, k, g.Delete("", true), g.Cancel(0), g.Forget(0), g.Check()} {
			if e != api.ErrDown {
				t.Errorf("call %d of a dead engine: %v", n, e)
			}
		}
		if g.Stats().Frames != 4 {
			t.Error("Stats")
		}
	}
	d.Pull(blockdev.Crash{})
	dead()
	if _, e := Mount(d, Options{}); e != api.ErrDown {
		t.Error("Mount")
	}
	d.Restart()
	dead()
	g = mounted(t, d, Options{4, 1, 4096})
	d.Pull(blockdev.Crash{})
	d.Restart()
	dead()
}

// A graph without vertices, and one of a vertex that leads to itself: each job ends.
func TestSmall(t *testing.T) {
	g := mounted(t, device(t, 200), Options{4, 1, 4096})
	imports(t, g, "none", 0, "# nothing\n\n", Imported{}, 0)
	imports(t, g, "one", 1, "0 0\n0 0", Imported{1, 1, 0}, 0)
	imports(t, g, "bad", 0, "0 0", Imported{Line: 1}, api.ErrEdge)
	for kind := uint8(jobs.Bfs); kind <= jobs.Ball; kind++ {
		name := string(rune('a' + kind))
		_, e := g.Submit(jobs.Spec{Kind: kind, Graph: "none", Result: name + "0", P: 4, Rounds: 3})
		if (e == api.ErrArg) != (kind == jobs.Bfs || kind == jobs.Dom) {
			t.Errorf("kind %d: %v", kind, e)
		}
		if _, e := g.Submit(jobs.Spec{Kind: kind, Graph: "one", Result: name + "1", P: 4, Rounds: 3}); e != 0 {
			t.Errorf("kind %d: %v", kind, e)
		}
	}
	ids, _ := g.Jobs()
	for _, id := range ids {
		if x := toEnd(t, g, id); x.State != jobs.Done {
			t.Error(x)
		}
	}
	l, e := g.List()
	if e != 0 || len(l) != 12 {
		t.Error(l, e)
	}
	for _, x := range l {
		if x.Result && x.Name[1] == '1' {
			fetches(t, g, x.Name, 0)
		}
		if x.Result && x.Name[1] == '0' && x.N != 0 && x.Name[0] != 'a'+jobs.Tri {
			t.Error(x)
		}
	}
	if g.Check() != 0 {
		t.Error("Check")
	}
}
