package runs

import (
	"math/rand"
	"slices"
	"testing"

	"wattle/api"
	"wattle/ball"
	"wattle/bfs"
	"wattle/blockdev"
	"wattle/bv"
	"wattle/core"
	"wattle/dom"
	"wattle/pool"
	"wattle/scc"
	"wattle/tri"
)

// kind is a kind of runs.
type kind struct {
	name  string
	both  bool // for symmetrised graphs
	make  func(s *pool.Space, x given) (run, api.Errno)
	none  run // a nil one
	zero  run // one that was made otherwise
	want  func(g api.Graph, root int) []uint64
	steps func(g api.Graph, root int) int
	saved func(n int) int // bytes of a Save
}

// none is the interface of no run, where there is an error.
func none[R run](r R, e api.Errno) (run, api.Errno) {
	if e != api.OK {
		return nil, e
	}
	return r, e
}

func kinds() []kind {
	return []kind{
		{"bfs", false, func(s *pool.Space, x given) (run, api.Errno) { return none(bfs.New(s, x.g, x.root)) }, (*bfs.Run)(nil), &bfs.Run{}, distances, levels, func(n int) int { return 5 + 4*n }},
		{"scc", false, func(s *pool.Space, x given) (run, api.Errno) { return none(scc.New(s, x.g, x.t)) }, (*scc.Run)(nil), &scc.Run{}, components, sweeps, func(n int) int { return 6 + 9*n }},
		{"dom", false, func(s *pool.Space, x given) (run, api.Errno) { return none(dom.New(s, x.g, x.t, x.root)) }, (*dom.Run)(nil), &dom.Run{}, dominators, nil, nil},
		{"core", true, func(s *pool.Space, x given) (run, api.Errno) { return none(core.New(s, x.g)) }, (*core.Run)(nil), &core.Run{}, cores, peelings, func(n int) int { return 9 + 4*n }},
		{"tri", true, func(s *pool.Space, x given) (run, api.Errno) { return none(tri.New(s, x.g)) }, (*tri.Run)(nil), &tri.Run{}, triangles, func(g api.Graph, _ int) int { return max(1, (len(g)+15)/16) }, func(int) int { return 13 }},
		{"ball", false, func(s *pool.Space, x given) (run, api.Errno) { return none(ball.New(s, x.g, 5, 9, 77)) }, (*ball.Run)(nil), &ball.Run{}, sums, rounds, func(n int) int { return 5 + 40*n }},
	}
}

func check(t *testing.T, k kind, g api.Graph, root int, r run) {
	t.Helper()
	if got, want := values(t, r), k.want(g, root); !slices.Equal(got, want) {
		t.Fatalf("%s of %v from %d: %v, want %v", k.name, g, root, got, want)
	}
	if k.steps != nil && r.Steps() != k.steps(g, root) {
		t.Fatalf("%s of %v from %d: %d steps, want %d", k.name, g, root, r.Steps(), k.steps(g, root))
	}
}

// P22.3, P23.3, P24.3, P25.3, P26.3, P28.3: by definition; and no page is pinned, all blocks are given back.
func TestByDefinition(t *testing.T) {
	for _, k := range kinds() {
		rnd := rand.New(rand.NewSource(1))
		for range 120 {
			n := 1 + rnd.Intn(40)
			g, root := some(rnd, n, k.both), rnd.Intn(n)
			s := space(400, 1+rnd.Intn(5))
			r, e := k.make(s, files(g, root, bv.Usual()))
			if e != api.OK {
				t.Fatal(k.name, e)
			}
			if _, e := r.Value(0); r.Steps() != 0 || e != api.ErrState {
				t.Fatal(k.name, "a value ahead of the end")
			}
			toEnd(t, r)
			check(t, k, g, root, r)
			if _, e := r.Step(); e != api.ErrDone {
				t.Fatal(k.name, "a step behind the end")
			}
			for _, i := range []int{-1, r.Count()} {
				if x, e := r.Value(i); x != 0 || e != api.ErrArg {
					t.Fatal(k.name, "a value that is none", e)
				}
			}
			if st := s.Stats(); r.Close() != api.OK || s.Map().Room() != 400 || st.Most > 0 {
				t.Fatal(k.name, "what stays")
			}
			if _, e := r.Step(); e != api.ErrState || r.Close() != api.ErrState || r.Load("") != api.ErrState {
				t.Fatal(k.name, "closed")
			}
			_, e = r.Save()
			if _, f := r.Value(0); e != api.ErrState || f != api.ErrState {
				t.Fatal(k.name, "closed")
			}
		}
	}
}

// P22.4, P23.4, P24.5, P25.4, P26.4, P28.4: wherever it is taken up, it goes on alike.
func TestTakenUp(t *testing.T) {
	for _, k := range kinds() {
		rnd := rand.New(rand.NewSource(2))
		for range 60 {
			n := 1 + rnd.Intn(40)
			g, root := some(rnd, n, k.both), rnd.Intn(n)
			r, _ := k.make(space(400, 3), files(g, root, bv.Usual()))
			for done := false; !done; {
				var e api.Errno
				done, e = r.Step()
				if e != api.OK {
					t.Fatal(k.name, e)
				}
				if rnd.Intn(3) > 0 {
					continue
				}
				text, e := r.Save()
				if e != api.OK || k.saved != nil && len(text) != k.saved(n) {
					t.Fatal(k.name, len(text), e)
				}
				other := space(300, 1+rnd.Intn(4))
				p := bv.Params{Window: rnd.Intn(9), Depth: rnd.Intn(4), Interval: 2, Zeta: 1 + rnd.Intn(5), Cap: 100}
				q, e := k.make(other, files(g, root, p))
				if e != api.OK {
					t.Fatal(k.name, e)
				}
				for range rnd.Intn(3) {
					q.Step()
				}
				if e := q.Load(text); e != api.OK || q.Steps() != r.Steps() {
					t.Fatal(k.name, e)
				}
				if again, _ := q.Save(); again != text || r.Close() != api.OK {
					t.Fatal(k.name, "another text")
				}
				r = q
			}
			check(t, k, g, root, r)
		}
	}
}

// The errors of New, of nil runs, of texts that are none.
func TestRefused(t *testing.T) {
	g := api.Graph{{1, 2}, {0, 2}, {0, 1}, {}}
	x := files(g, 0, bv.Usual())
	for _, k := range kinds() {
		for _, s := range []*pool.Space{nil, {}} {
			if r, e := k.make(s, x); r != nil || e != api.ErrNil {
				t.Error(k.name, "no space", e)
			}
		}
		if r, e := k.make(space(40, 2), given{nil, nil, -1}); r != nil || e != api.ErrNil {
			t.Error(k.name, "no graph", e)
		}
		for _, r := range []run{k.none, k.zero} {
			_, a := r.Step()
			_, b := r.Save()
			_, c := r.Value(0)
			if a != api.ErrNil || b != api.ErrNil || c != api.ErrNil || r.Load("") != api.ErrNil || r.Close() != api.ErrNil || r.Steps()+r.Count() != 0 {
				t.Error(k.name, "a nil run")
			}
		}
		s := space(60, 2)
		r, e := k.make(s, x)
		if e != api.OK {
			t.Fatal(k.name, e)
		}
		r.Step()
		text, _ := r.Save()
		done := 4
		if k.name == "scc" {
			done = 5
		}
		flag := []byte(text)
		flag[done] = 2
		many := []byte(text)
		many[0] = 1
		for i, bad := range []string{"", text[:4], text[:len(text)-1], text + "x", string(flag), string(many)} {
			if i == 5 && (k.name == "scc" || k.name == "dom") {
				continue
			}
			if e := r.Load(bad); e != api.ErrForm {
				t.Errorf("%s: text %d: %v", k.name, i, e)
			}
		}
		if again, _ := r.Save(); again != text {
			t.Error(k.name, "a text that was refused changes it")
		}
	}
}

// P24.2 and others: texts that no run told: nothing panics, each call ends.
func TestAnyText(t *testing.T) {
	for _, k := range kinds() {
		rnd := rand.New(rand.NewSource(3))
		for range 200 {
			n := 1 + rnd.Intn(20)
			g := some(rnd, n, k.both)
			r, _ := k.make(space(100, 2), files(g, 0, bv.Usual()))
			r.Step()
			text, _ := r.Save()
			b := []byte(text)
			for range rnd.Intn(12) {
				b[rnd.Intn(len(b))] = byte(rnd.Intn(8) * rnd.Intn(37))
			}
			b[0], b[1] = 0, 0
			e := r.Load(string(b))
			for i := 0; i < 100 && e == api.OK; i++ {
				_, e = r.Step()
			}
			for i := range n {
				r.Value(i)
			}
			r.Save()
			if r.Close() != api.OK {
				t.Fatal(k.name, "Close")
			}
		}
	}
}

// No room, no frame, a device that is down.
func TestNoRoom(t *testing.T) {
	rnd := rand.New(rand.NewSource(4))
	for _, k := range kinds() {
		g := some(rnd, 40, k.both)
		x := files(g, 0, bv.Usual())
		for room := range 14 {
			s := space(20, 2)
			s.Take(20 - room)
			r, e := k.make(s, x)
			if e == api.OK {
				toEnd(t, r)
				check(t, k, g, 0, r)
				r.Close()
			} else if e != api.ErrFull {
				t.Error(k.name, e)
			}
			if s.Map().Room() != room {
				t.Errorf("%s: room %d, not %d", k.name, s.Map().Room(), room)
			}
		}
		if k.name == "tri" {
			continue // it has no blocks
		}
		s := space(40, 1)
		r, _ := k.make(s, x)
		text, _ := r.Save()
		s.Pin(39)
		if r.Load(text) != api.ErrMemory {
			t.Error(k.name, "no frame to load")
		}
		if _, e := r.Step(); e != api.ErrMemory {
			t.Error(k.name, "no frame", e)
		}
		if _, e := r.Step(); e != api.ErrState || r.Load(text) != api.ErrState {
			t.Error(k.name, "broken")
		}
		if q, e := k.make(s, x); q != nil || e != api.ErrMemory || s.Unpin(39) != api.OK || r.Close() != api.OK || s.Map().Room() != 40 {
			t.Error(k.name, "what stays", e)
		}
		r, _ = k.make(s, x)
		s.Device().Pull(blockdev.Crash{})
		if _, e := r.Step(); e != api.ErrDown {
			t.Error(k.name, "down", e)
		}
		if q, e := k.make(s, x); q != nil || e == api.OK {
			t.Error(k.name, "New on a device that is down")
		}
	}
}
