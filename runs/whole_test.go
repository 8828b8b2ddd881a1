package runs

import (
	"maps"
	"math/rand"
	"slices"
	"testing"

	"wattle/api"
	"wattle/blockdev"
	"wattle/bv"
	"wattle/catalog"
	"wattle/dom"
	"wattle/edges"
	"wattle/engine"
	"wattle/jobs"
)

// plain is DOC.md's plain model: graphs and results by their names, jobs.
type plain struct {
	graphs  map[string]api.Graph
	results map[string][]uint64
	jobs    map[int]*plainJob
	last    int
}

type plainJob struct {
	jobs.Info
	want  []uint64
	total int // steps
}

func empty() *plain {
	return &plain{map[string]api.Graph{}, map[string][]uint64{}, map[int]*plainJob{}, 0}
}

func (m *plain) clone() *plain {
	c := &plain{maps.Clone(m.graphs), maps.Clone(m.results), map[int]*plainJob{}, m.last}
	for id, j := range m.jobs {
		own := *j
		c.jobs[id] = &own
	}
	return c
}

func symmetrised(g api.Graph) api.Graph {
	h := make(api.Graph, len(g))
	for v, l := range g {
		for _, w := range l {
			if int(w) != v {
				h[v] = append(h[v], w)
				h[w] = append(h[w], uint32(v))
			}
		}
	}
	tidy(h)
	return h
}

// defined is the result of a job, and how many steps it has, by the definitions.
func defined(g api.Graph, x jobs.Spec) ([]uint64, int) {
	switch x.Kind {
	case jobs.Bfs:
		return distances(g, x.Root), levels(g, x.Root)
	case jobs.Scc:
		return components(g, 0), sweeps(g, 0)
	case jobs.Core:
		u := symmetrised(g)
		return cores(u, 0), peelings(u, 0)
	case jobs.Tri:
		return triangles(symmetrised(g), 0), max(1, (len(g)+15)/16)
	case jobs.Ball:
		return growth(g)
	}
	y := files(g, x.Root, bv.Usual())
	r, _ := dom.New(space(200, 4), y.g, y.t, x.Root)
	for done := false; !done; {
		done, _ = r.Step()
	}
	return dominators(g, x.Root), r.Steps()
}

func wantOfRoom(e api.Errno) bool {
	return e == api.ErrFull || e == api.ErrLog || e == api.ErrMemory
}

// player plays some call on an engine and on the model; the model becomes what the call makes of it, if that is answered by OK.
type player struct {
	t     *testing.T
	rnd   *rand.Rand
	g     *engine.Engine
	m     *plain
	room  bool // there is always room
	every int
}

// judge says whether an answer is the model's; if so the model goes on to what is behind the call.
func (p *player) judge(what string, e, want api.Errno, behind *plain) {
	p.t.Helper()
	if e == api.ErrDown || wantOfRoom(e) && !p.room && (want == api.OK || want == api.ErrEdge) {
		return
	}
	if e != want {
		p.t.Fatalf("%s: %v, want %v", what, e, want)
	}
	if e == api.OK {
		p.m = behind
	}
}

func (p *player) name() string { return string(rune('a' + p.rnd.Intn(5))) }

// play plays some call: its answer, and what the model is to be behind it.
func (p *player) play() (api.Errno, *plain) {
	behind := p.m.clone()
	switch r := p.rnd.Intn(20); {
	case r < 2:
		return p.imports(behind), behind
	case r < 3:
		return p.deletes(behind), behind
	case r < 5:
		return p.submits(behind), behind
	case r < 6 && p.m.last > 0:
		return p.ends(behind), behind
	case r < 15 && p.m.last > 0:
		return p.steps(behind), behind
	case r < 17:
		return p.asks(), behind
	}
	return p.lists(), behind
}

func (p *player) imports(behind *plain) api.Errno {
	name := p.name()
	g := some(p.rnd, 1+p.rnd.Intn(25), false)
	if p.rnd.Intn(8) == 0 {
		name = []string{"", "a\x00b"}[p.rnd.Intn(2)]
	}
	var l []api.Edge
	for v, succ := range g {
		for _, w := range succ {
			l = append(l, api.Edge{From: uint32(v), To: w})
		}
	}
	l = append(l, l[:len(l)/3]...)
	p.rnd.Shuffle(len(l), func(i, j int) { l[i], l[j] = l[j], l[i] })
	text, want, line := edges.Show(l), api.OK, 0
	if p.rnd.Intn(8) == 0 {
		text, want, line = text+"0 x\n", api.ErrEdge, len(l)+1
	}
	if _, ok := p.m.graphs[name]; ok {
		want, line = api.ErrThere, 0
	}
	if name == "" {
		want, line = api.ErrName, 0
	}
	m := 0
	for _, succ := range g {
		m += len(succ)
	}
	x, e := p.g.Import(name, len(g), text)
	behind.graphs[name] = g
	p.judge("import", e, want, behind)
	told := engine.Imported{}
	switch e {
	case api.OK:
		told = engine.Imported{N: len(g), M: m}
	case api.ErrEdge:
		told.Line = line
	}
	if x != told {
		p.t.Fatal("import", x, told)
	}
	return e
}

func (p *player) deletes(behind *plain) api.Errno {
	name, result := p.name(), p.rnd.Intn(2) == 0
	_, there := p.m.graphs[name]
	if result {
		_, there = p.m.results[name]
		delete(behind.results, name)
	} else {
		delete(behind.graphs, name)
	}
	want := api.OK
	if !there {
		want = api.ErrNone
	}
	for _, j := range p.m.jobs {
		if there && !result && j.State == jobs.Pending && j.Graph == name {
			want = api.ErrState
		}
	}
	e := p.g.Delete(name, result)
	p.judge("delete", e, want, behind)
	return e
}

func (p *player) submits(behind *plain) api.Errno {
	x := jobs.Spec{Kind: uint8(p.rnd.Intn(8)), Graph: p.name(), Result: p.name(), Root: p.rnd.Intn(30) - 2, P: 5, Rounds: 9, Seed: 77}
	g, there := p.m.graphs[x.Graph]
	_, taken := p.m.results[x.Result]
	for _, j := range p.m.jobs {
		taken = taken || j.State == jobs.Pending && j.Result == x.Result
	}
	want := api.OK
	switch {
	case x.Kind < jobs.Bfs || x.Kind > jobs.Ball:
		want = api.ErrKind
	case !there:
		want = api.ErrNone
	case taken:
		want = api.ErrThere
	case (x.Kind == jobs.Bfs || x.Kind == jobs.Dom) && (x.Root < 0 || x.Root >= len(g)):
		want = api.ErrArg
	}
	if want == api.OK {
		behind.last++
		j := &plainJob{Info: jobs.Info{Id: behind.last, Spec: x, State: jobs.Pending}}
		j.want, j.total = defined(g, x)
		n, m := len(g), 0
		for _, succ := range g {
			m += len(succ)
		}
		if j.total > 4*(n+2)*(n+2)+n+m+100 {
			p.t.Fatal("too many steps")
		}
		behind.jobs[behind.last] = j
	}
	id, e := p.g.Submit(x)
	p.judge("submit", e, want, behind)
	if e == api.OK && id != behind.last || e != api.OK && id != 0 {
		p.t.Fatal("submit", id)
	}
	return e
}

func (p *player) ends(behind *plain) api.Errno {
	id := 1 + p.rnd.Intn(p.m.last)
	j, cancel := behind.jobs[id], p.rnd.Intn(3) == 0
	want := api.OK
	switch {
	case j == nil:
		want = api.ErrNone
	case (j.State == jobs.Pending) != cancel:
		want = api.ErrState
	case cancel:
		j.State = jobs.Cancelled
	default:
		delete(behind.jobs, id)
	}
	e := api.OK
	if cancel {
		e = p.g.Cancel(id)
	} else {
		e = p.g.Forget(id)
	}
	p.judge("cancel or forget", e, want, behind)
	return e
}

func (p *player) steps(behind *plain) api.Errno {
	id := 1 + p.rnd.Intn(p.m.last)
	j := behind.jobs[id]
	want := api.OK
	switch {
	case j == nil:
		want = api.ErrNone
	case j.State != jobs.Pending:
		want = api.ErrState
	default:
		j.Steps++
		if j.Steps == j.total {
			j.State = jobs.Done
			behind.results[j.Result] = j.want
		}
	}
	x, e := p.g.Step(id)
	p.judge("step", e, want, behind)
	if e == api.OK && x != j.Info || e != api.OK && x != (jobs.Info{}) {
		p.t.Fatalf("step: %v, want %v", x, j.Info)
	}
	return e
}

// asks asks for something by a name.
func (p *player) asks() api.Errno {
	name := p.name()
	if p.rnd.Intn(2) == 0 {
		g, v, want := p.m.graphs[name], p.rnd.Intn(30)-2, api.OK
		if g == nil {
			want = api.ErrNone
		} else if v < 0 || v >= len(g) {
			want = api.ErrArg
		}
		l, e := p.g.Successors(name, v)
		p.judge("successors", e, want, p.m)
		if e == api.OK && !slices.Equal(l, g[v]) {
			p.t.Fatal("successors", l)
		}
		return e
	}
	l, there := p.m.results[name]
	from, count, want := p.rnd.Intn(8)-1, p.rnd.Intn(30), api.OK
	if !there {
		want = api.ErrNone
	} else if from < 0 || from+count > len(l) {
		want = api.ErrArg
	}
	got, e := p.g.Fetch(name, from, count)
	p.judge("fetch", e, want, p.m)
	if e == api.OK && !slices.Equal(got, l[from:from+count]) {
		p.t.Fatal("fetch", got)
	}
	return e
}

// items are what List tells of a model.
func (m *plain) items() []engine.Item {
	var l []engine.Item
	for _, name := range slices.Sorted(maps.Keys(m.graphs)) {
		x := engine.Item{Name: name, N: len(m.graphs[name])}
		for _, succ := range m.graphs[name] {
			x.M += len(succ)
		}
		l = append(l, x)
	}
	for _, name := range slices.Sorted(maps.Keys(m.results)) {
		l = append(l, engine.Item{Name: name, Result: true, N: len(m.results[name])})
	}
	return l
}

func (p *player) lists() api.Errno {
	l, e := p.g.List()
	p.judge("list", e, api.OK, p.m)
	if e != api.OK {
		return e
	}
	ids, _ := p.g.Jobs()
	if !slices.Equal(l, p.m.items()) || !slices.Equal(ids, slices.Sorted(maps.Keys(p.m.jobs))) {
		p.t.Fatal("list", l, ids)
	}
	for id, j := range p.m.jobs {
		if x, e := p.g.Status(id); x != j.Info || e != api.OK {
			p.t.Fatalf("status: %v, want %v", x, j.Info)
		}
	}
	return p.g.Check()
}

// is says whether an engine has what a model has, but that pending jobs may have made fewer steps.
func (m *plain) is(t *testing.T, g *engine.Engine) bool {
	t.Helper()
	l, e := g.List()
	ids, f := g.Jobs()
	if e != 0 || f != 0 {
		t.Fatal(e, f)
	}
	if !slices.Equal(l, m.items()) || !slices.Equal(ids, slices.Sorted(maps.Keys(m.jobs))) {
		return false
	}
	for name, graph := range m.graphs {
		for v, want := range graph {
			if succ, e := g.Successors(name, v); !slices.Equal(succ, want) || e != 0 {
				return false
			}
		}
	}
	for name, want := range m.results {
		if got, e := g.Fetch(name, 0, len(want)); !slices.Equal(got, want) || e != 0 {
			return false
		}
	}
	for id, j := range m.jobs {
		x, _ := g.Status(id)
		y := j.Info
		if y.State == jobs.Pending && x.Steps < y.Steps {
			y.Steps = x.Steps
		}
		if x != y {
			return false
		}
	}
	return true
}

func anyCrash(rnd *rand.Rand) blockdev.Crash {
	c := blockdev.Crash{Torn: rnd.Intn(40) - 1, Mask: uint8(rnd.Intn(256))}
	for i := range 80 {
		if rnd.Intn(2) == 0 {
			c.Keep = append(c.Keep, i)
		}
	}
	return c
}

// mount mounts an engine, the device going down within some times; the model is that ahead of the last call, or the one behind it.
func (p *player) mount(d *blockdev.Device, behind *plain) {
	p.t.Helper()
	o := engine.Options{Frames: 4 + p.rnd.Intn(20), Every: p.every, Budget: 3*d.Size() + p.rnd.Intn(9000)}
	if !d.Down() {
		d.Pull(anyCrash(p.rnd))
	}
	for range p.rnd.Intn(3) {
		d.Restart()
		d.Plan(1+p.rnd.Intn(10), anyCrash(p.rnd))
		engine.Mount(d, o)
		if !d.Down() {
			d.Pull(anyCrash(p.rnd))
		}
	}
	d.Restart()
	var e api.Errno
	if p.g, e = engine.Mount(d, o); e != api.OK {
		p.t.Fatal(e)
	}
	if !p.m.is(p.t, p.g) {
		p.m = behind
	}
	if !p.m.is(p.t, p.g) || p.g.Check() != api.OK {
		p.t.Fatal("neither ahead of the call nor behind it")
	}
	for id, j := range p.m.jobs {
		x, _ := p.g.Status(id)
		if x.State == jobs.Pending && x.Steps%p.every != 0 {
			p.t.Fatal("no checkpoint tells that")
		}
		j.Info = x
	}
}

// P2 to P11: whatever is played, on devices with room and with little, with crashes and without, each answer is the plain model's.
func TestWhole(t *testing.T) {
	for seed := range int64(60) {
		rnd := rand.New(rand.NewSource(seed))
		blocks := []int{400, 110, 70}[seed%3]
		d, _ := blockdev.New(blockdev.Geometry{Blocks: blocks, Sectors: 1 + rnd.Intn(2)})
		if e := engine.Format(d, engine.Config{Log: 24 + rnd.Intn(10)}); e != api.OK {
			t.Fatal(e)
		}
		p := &player{t: t, rnd: rnd, m: empty(), every: 1 + rnd.Intn(5), room: blocks == 400}
		p.mount(d, p.m)
		crashes := seed%2 == 0
		for range 400 {
			if crashes && rnd.Intn(20) == 0 {
				d.Plan(1+rnd.Intn(60), anyCrash(rnd))
			}
			e, behind := p.play()
			if st := p.g.Stats(); st.Pinned > 0 || st.Most > 1 || st.Held > st.Frames {
				t.Fatal(st)
			}
			if e == api.ErrDown || rnd.Intn(60) == 0 {
				if e != api.ErrDown {
					behind = p.m
				}
				p.mount(d, behind)
			}
		}
		d.Plan(0, blockdev.Crash{})
		p.clear(d)
	}
}

// clear takes all away: the whole data area is free then, but for the page in which the jobs' counter stands.
func (p *player) clear(d *blockdev.Device) {
	p.t.Helper()
	for id, j := range p.m.jobs {
		if j.State == jobs.Pending && p.g.Cancel(id) != api.OK || p.g.Forget(id) != api.OK {
			p.t.Fatal("forget")
		}
	}
	for _, x := range p.m.items() {
		if e := p.g.Delete(x.Name, x.Result); e != api.OK {
			p.t.Fatal("delete", e)
		}
	}
	p.m = &plain{jobs: map[int]*plainJob{}, last: p.m.last}
	if !p.m.is(p.t, p.g) || p.g.Check() != api.OK {
		p.t.Fatal("something stays")
	}
	s, _, e := catalog.Mount(d, 4)
	if e != api.OK {
		p.t.Fatal(e)
	}
	if p.m.last > 0 {
		l, _ := s.List(jobs.Counter)
		if e := s.Commit(catalog.Change{Delete: []catalog.Key{{Kind: jobs.Counter, Name: l[0].Name}}}); e != api.OK {
			p.t.Fatal(e)
		}
	}
	if m := s.Space().Map(); m.Room() != m.Spaces()[0].Len || m.Spaces()[0].Start+m.Room() != d.Blocks() {
		p.t.Fatal("blocks are taken")
	}
}
