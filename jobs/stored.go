package jobs

import (
	"wattle/api"
	"wattle/catalog"
	"wattle/num"
	"wattle/pool"
	"wattle/sketch"
	"wattle/stream"
)

// The exponents of a Ball.
const (
	minP = sketch.Least
	maxP = sketch.Most
)

// How many bytes something has that is stored.
const (
	idBytes    = 8
	stepsBytes = 8
	codeBytes  = 4
	stateBytes = 1 + stepsBytes + codeBytes
	valueBytes = 8
)

// counterName is the name of the only entry of its kind.
const counterName = "last"

// name is that of a job's entries.
func name(id int) string { return num.Text(uint64(id), idBytes) }

func counter(last int) catalog.Entry {
	return catalog.Entry{Kind: Counter, Name: counterName, Data: num.Text(uint64(last), idBytes)}
}

// entry is a job as the store has it.
func (j *job) entry() catalog.Entry {
	data := num.Text(uint64(j.State), 1) + num.Text(uint64(j.Steps), stepsBytes) + num.Text(uint64(j.Code), codeBytes)
	return catalog.Entry{Kind: Job, Name: name(j.Id), X: j.x, Data: data}
}

// text is a Spec's bytes.
func (x Spec) text() string {
	s := num.Text(uint64(x.Kind), 1)
	for _, v := range [...]uint64{uint64(x.Root), uint64(x.P), uint64(x.Rounds), x.Seed} {
		s += num.Text(v, 8)
	}
	for _, name := range [...]string{x.Graph, x.Result} {
		s += num.Text(uint64(len(name)), 1) + name
	}
	return s
}

// specOf is the Spec of bytes.
func specOf(s string) (Spec, bool) {
	ok := true
	cut := func(n int) string {
		ok = ok && n <= len(s)
		if !ok {
			return ""
		}
		part := s[:n]
		s = s[n:]
		return part
	}
	number := func(n int) uint64 { return num.Of(cut(n)) }
	x := Spec{Kind: uint8(number(1)), Root: int(number(8)), P: int(number(8)), Rounds: int(number(8)), Seed: number(8)}
	x.Graph = cut(int(number(1)))
	x.Result = cut(int(number(1)))
	return x, ok && s == "" && x.Kind >= Bfs && x.Kind <= Ball
}

func numbers(text string) []uint64 {
	var l []uint64
	for ; text != ""; text = text[valueBytes:] {
		l = append(l, num.Of(text[:valueBytes]))
	}
	return l
}

// keep writes a stream of so many bytes to an extent of its own.
func keep(s *pool.Space, bytes int, write func(w *stream.Writer) api.Errno) (x api.Extent, e api.Errno) {
	blocks, e := stream.Blocks(s.Size(), bytes)
	if e != api.OK {
		return api.Extent{}, api.ErrFull
	}
	x, e = s.Take(blocks)
	if e != api.OK {
		return api.Extent{}, e
	}
	defer func() {
		if e != api.OK {
			s.Give(x)
			x = api.Extent{}
		}
	}()
	w, e := stream.Create(s, x)
	if e != api.OK {
		return x, e
	}
	if e := write(w); e != api.OK {
		return x, e
	}
	return x, w.Close()
}

// whole is all bytes of a stream.
func whole(s *pool.Space, x api.Extent) (string, api.Errno) {
	r, e := stream.Open(s, x)
	if e != api.OK {
		return "", e
	}
	if e := r.Verify(); e != api.OK {
		return "", e
	}
	return r.ReadAt(0, r.Length())
}

// Open opens a store's jobs.
func Open(s *catalog.Store, every int) (*Table, api.Errno) {
	if s.Space() == nil {
		return nil, api.ErrNil
	}
	if every < 1 || every > MaxEvery {
		return nil, api.ErrArg
	}
	t := &Table{s: s, every: every, jobs: map[int]*job{}, runs: map[int]*running{}}
	for _, part := range [...]struct {
		kind uint8
		take func(x catalog.Entry) api.Errno
	}{{Counter, t.takeCounter}, {Job, t.takeJob}, {Checkpoint, t.takeCheckpoint}} {
		l, e := s.List(part.kind)
		if e != api.OK {
			return nil, e
		}
		for _, x := range l {
			if e := part.take(x); e != api.OK {
				return nil, e
			}
		}
	}
	return t, api.OK
}

// takeCounter notes the greatest number that there was.
func (t *Table) takeCounter(x catalog.Entry) api.Errno {
	t.last = int(num.Of(x.Data))
	if x.Name != counterName || len(x.Data) != idBytes || t.last < 1 {
		return api.ErrCorrupt
	}
	return api.OK
}

// takeJob notes a job.
func (t *Table) takeJob(x catalog.Entry) api.Errno {
	id := int(num.Of(x.Name))
	if len(x.Name) != idBytes || id < 1 || id > t.last || len(x.Data) != stateBytes || len(t.jobs) >= MaxJobs {
		return api.ErrCorrupt
	}
	text, e := whole(t.s.Space(), x.X)
	if e == api.ErrArg { // it has no extent
		return api.ErrCorrupt
	}
	if e != api.OK {
		return e
	}
	spec, ok := specOf(text)
	j := &job{Info: Info{Id: id, Spec: spec, State: x.Data[0]}, x: x.X}
	j.Steps = int(num.Of(x.Data[1 : 1+stepsBytes]))
	j.Code = api.Errno(num.Of(x.Data[1+stepsBytes:]))
	if !ok || j.State < Pending || j.State > Cancelled || j.Steps < 0 {
		return api.ErrCorrupt
	}
	t.jobs[id] = j
	return api.OK
}

// takeCheckpoint notes how far a pending job was.
func (t *Table) takeCheckpoint(x catalog.Entry) api.Errno {
	j := t.jobs[int(num.Of(x.Name))]
	steps := int(num.Of(x.Data))
	if len(x.Name) != idBytes || len(x.Data) != stepsBytes || j == nil || j.State != Pending || steps < 1 {
		return api.ErrCorrupt
	}
	j.Steps, j.saved, j.has = steps, steps, true
	return api.OK
}
