package jobs

import (
	"wattle/api"
	"wattle/ball"
	"wattle/bfs"
	"wattle/bv"
	"wattle/catalog"
	"wattle/core"
	"wattle/dom"
	"wattle/ingest"
	"wattle/num"
	"wattle/pool"
	"wattle/scc"
	"wattle/stream"
	"wattle/tri"
	"wattle/turn"
	"wattle/walk"
)

// run is what all kinds of runs can.
type run interface {
	Step() (bool, api.Errno)
	Save() (string, api.Errno)
	Load(text string) api.Errno
	Count() int
	Value(i int) (uint64, api.Errno)
	Close() api.Errno
}

// running is a job's run, with the scratch of the graphs that were made for it; ended is the state that the job gets when it is stored.
type running struct {
	run
	s       *pool.Space
	scratch []api.Extent
	ended   uint8
}

// turner makes of a graph another one.
type turner func(s *pool.Space, g *walk.Graph, p bv.Params, budget int) (ingest.Built, api.Errno)

// other is a graph that is made of one, in scratch.
func (r *running) other(g *walk.Graph, of turner) (*walk.Graph, api.Errno) {
	b, e := of(r.s, g, bv.Usual(), Budget)
	if e != api.OK {
		return nil, e
	}
	r.scratch = append(r.scratch, b.X)
	text, e := stream.Open(r.s, b.X)
	if e != api.OK {
		return nil, e
	}
	return walk.Open(text)
}

// give gives all that a run has back.
func (r *running) give() {
	if r.run != nil {
		r.run.Close()
	}
	for _, x := range r.scratch {
		r.s.Give(x)
	}
}

// maker makes the run of a job of some kind.
type maker func(r *running, g *walk.Graph, x Spec) (run, api.Errno)

// by makes a run of a graph and another one that is made of it.
func by(of turner, begin func(s *pool.Space, g, other *walk.Graph, x Spec) (run, api.Errno)) maker {
	return func(r *running, g *walk.Graph, x Spec) (run, api.Errno) {
		other, e := r.other(g, of)
		if e != api.OK {
			return nil, e
		}
		return begin(r.s, g, other, x)
	}
}

// makers are those of all kinds.
func makers() map[uint8]maker {
	return map[uint8]maker{
		Bfs: func(r *running, g *walk.Graph, x Spec) (run, api.Errno) {
			return made(bfs.New(r.s, g, x.Root))
		},
		Scc: by(turn.Transpose, func(s *pool.Space, g, t *walk.Graph, x Spec) (run, api.Errno) {
			return made(scc.New(s, g, t))
		}),
		Dom: by(turn.Transpose, func(s *pool.Space, g, t *walk.Graph, x Spec) (run, api.Errno) {
			return made(dom.New(s, g, t, x.Root))
		}),
		Core: by(turn.Symmetrise, func(s *pool.Space, _, u *walk.Graph, x Spec) (run, api.Errno) {
			return made(core.New(s, u))
		}),
		Tri: by(turn.Symmetrise, func(s *pool.Space, _, u *walk.Graph, x Spec) (run, api.Errno) {
			return made(tri.New(s, u))
		}),
		Ball: func(r *running, g *walk.Graph, x Spec) (run, api.Errno) {
			return made(ball.New(r.s, g, x.P, x.Rounds, x.Seed))
		},
	}
}

// made is a run, or none where there is an error.
func made[R run](r R, e api.Errno) (run, api.Errno) {
	if e != api.OK {
		return nil, e
	}
	return r, api.OK
}

// begin makes a job's run, as far as its checkpoint tells.
func (t *Table) begin(j *job) (r *running, e api.Errno) {
	r = &running{s: t.s.Space()}
	defer func() {
		if e != api.OK {
			r.give()
			r = nil
		}
	}()
	g, e := OpenGraph(t.s, j.Graph)
	if e != api.OK {
		return r, e
	}
	if r.run, e = makers()[j.Kind](r, g, j.Spec); e != api.OK {
		return r, e
	}
	if !j.has {
		return r, api.OK
	}
	x, e := t.s.Get(Checkpoint, name(j.Id))
	if e != api.OK {
		return r, e
	}
	text, e := whole(r.s, x.X)
	if e != api.OK {
		return r, e
	}
	return r, r.Load(text)
}

// drop forgets a job's run.
func (t *Table) drop(id int) {
	if r := t.runs[id]; r != nil {
		r.give()
		delete(t.runs, id)
	}
}

// Step goes on with a job.
func (t *Table) Step(id int) (Info, api.Errno) {
	j, e := t.pending(id, true)
	if e != api.OK {
		return Info{}, e
	}
	r := t.runs[id]
	if r == nil {
		if r, e = t.begin(j); e != api.OK {
			return Info{}, e
		}
		t.runs[id] = r
	}
	if r.ended == 0 {
		done, e := r.Step()
		switch {
		case e == api.ErrOver:
			r.ended = Failed
		case e != api.OK:
			return Info{}, t.lost(j, e)
		case done:
			r.ended = Done
		}
	}
	switch r.ended {
	case Done:
		e = t.store(j, r)
	case Failed:
		as := j.Info
		as.State, as.Code = Failed, api.ErrOver
		e = t.end(j, as)
	default:
		j.Steps++
		e = t.save(j, r)
	}
	if e != api.OK {
		return Info{}, e
	}
	return j.Info, api.OK
}

// lost is the answer behind an error by which a job's run is gone.
func (t *Table) lost(j *job, e api.Errno) api.Errno {
	t.drop(j.Id)
	j.Steps = j.saved
	return e
}

// store stores the result of a run that is done.
func (t *Table) store(j *job, r *running) api.Errno {
	x, e := keep(r.s, valueBytes*r.Count(), func(w *stream.Writer) api.Errno {
		for i := range r.Count() {
			v, e := r.Value(i)
			if e == api.OK {
				e = w.Write(num.Text(v, valueBytes))
			}
			if e != api.OK {
				return e
			}
		}
		return api.OK
	})
	if e != api.OK {
		return e
	}
	as := j.Info
	as.State = Done
	as.Steps++
	if e := t.end(j, as, catalog.Entry{Kind: Result, Name: j.Result, X: x}); e != api.OK {
		r.s.Give(x)
		return e
	}
	return api.OK
}

// save stores a checkpoint, if it is time for one, and there is room.
func (t *Table) save(j *job, r *running) api.Errno {
	if j.Steps%t.every != 0 {
		return api.OK
	}
	e := t.checkpoint(j, r)
	switch e {
	case api.OK, api.ErrFull, api.ErrLog, api.ErrMemory:
		return api.OK
	}
	return t.lost(j, e)
}

func (t *Table) checkpoint(j *job, r *running) api.Errno {
	text, e := r.Save()
	if e != api.OK {
		return e
	}
	x, e := keep(r.s, len(text), func(w *stream.Writer) api.Errno { return w.Write(text) })
	if e != api.OK {
		return e
	}
	entry := catalog.Entry{Kind: Checkpoint, Name: name(j.Id), X: x, Data: num.Text(uint64(j.Steps), stepsBytes)}
	if e := t.s.Commit(catalog.Change{Put: []catalog.Entry{entry}}); e != api.OK {
		r.s.Give(x)
		return e
	}
	j.saved, j.has = j.Steps, true
	return api.OK
}
