package list

import (
	"slices"

	"wattle/api"
	"wattle/bitio"
	"wattle/codes"
)

// ReadHead reads what stands ahead of a list.
func ReadHead(r *bitio.Reader, p Params) (h Head, e api.Errno) {
	if r == nil {
		return Head{}, api.ErrNil
	}
	if p.Check() != api.OK {
		return Head{}, api.ErrArg
	}
	at := r.At()
	defer func() {
		if e != api.OK {
			h = Head{}
			r.Seek(at)
		}
	}()
	degree, e := codes.Read(r, gamma())
	if e != api.OK || degree > api.MaxVertices {
		return h, api.ErrForm
	}
	ref := uint64(0)
	if degree > 0 && p.Window > 0 {
		ref, e = codes.Read(r, unary())
	}
	if e != api.OK || ref > uint64(p.Window) {
		return h, api.ErrForm
	}
	return Head{int(degree), int(ref)}, api.OK
}

// Decode reads the successors behind a head.
func Decode(r *bitio.Reader, x, n int, h Head, ref []uint32, p Params) ([]uint32, api.Errno) {
	if r == nil {
		return nil, api.ErrNil
	}
	if check(x, nil, ref, h.Ref, p) != api.OK || n < 0 || n > api.MaxVertices || h.Degree < 0 || h.Degree > api.MaxVertices {
		return nil, api.ErrArg
	}
	if h.Degree == 0 {
		if h.Ref > 0 {
			return nil, api.ErrForm
		}
		return nil, api.OK
	}
	at := r.At()
	t := taker{r: r, x: x, n: n, left: h.Degree}
	l := t.list(h, ref, p)
	if t.bad || !same(r, at, x, l, h, ref, p) {
		r.Seek(at)
		return nil, api.ErrForm
	}
	return l, api.OK
}

// same says whether the bits from at on, up to the reader's place, are just those of the successors behind their head.
func same(r *bitio.Reader, at, x int, l []uint32, h Head, ref []uint32, p Params) bool {
	end := r.At()
	bits, e := Bits(x, l, ref, h.Ref, p)
	if e != api.OK || len(l) != h.Degree {
		return false
	}
	w := bitio.New()
	Encode(w, x, l, ref, h.Ref, p)
	text, _ := w.Text()
	again := bitio.Open(text)
	if ReadHead(again, p); bits-again.At() != end-at {
		return false
	}
	r.Seek(at)
	for r.At() < end {
		k := min(64, end-r.At())
		a, _ := r.Take(k)
		b, _ := again.Take(k)
		if a != b {
			return false
		}
	}
	return true
}

// taker takes numbers; once there was none, it is bad, and takes noughts.
type taker struct {
	r    *bitio.Reader
	x, n int
	left int // how many successors are still to come
	bad  bool
}

func (t *taker) take(c codes.Code) int {
	if t.bad {
		return 0
	}
	v, e := codes.Read(t.r, c)
	t.bad = e != api.OK
	return int(v)
}

// first takes a number that is told by how far it is from the vertex.
func (t *taker) first(c codes.Code) int { return t.x + int(codes.Zag(uint64(t.take(c)))) }

// vertex says whether a number may be a successor, and that one more may come.
func (t *taker) vertex(v int) bool {
	t.bad = t.bad || v < 0 || v >= t.n || t.left == 0
	t.left--
	return !t.bad
}

// list takes all successors, in order, where they are such.
func (t *taker) list(h Head, ref []uint32, p Params) []uint32 {
	var l []uint32
	if h.Ref > 0 {
		l = t.copies(ref)
	}
	if !t.bad && t.left > 0 && p.Interval > 0 {
		l = append(l, t.intervals(p.Interval)...)
	}
	for v, i := 0, 0; !t.bad && t.left > 0; i++ {
		if i == 0 {
			v = t.first(p.zeta())
		} else {
			v += t.take(p.zeta()) + 1
		}
		if t.vertex(v) {
			l = append(l, uint32(v))
		}
	}
	slices.Sort(l)
	return l
}

// copies takes the runs of a reference's successors.
func (t *taker) copies(ref []uint32) []uint32 {
	var l []uint32
	runs := t.take(gamma())
	for i := 0; !t.bad && i <= runs; i++ {
		n := len(ref)
		if i < runs {
			n = t.take(gamma())
			if i > 0 {
				n++
			}
		}
		if n > len(ref) {
			t.bad = true
			break
		}
		for _, v := range ref[:n] {
			if i%2 == 0 && t.vertex(int(v)) {
				l = append(l, v)
			}
		}
		ref = ref[n:]
	}
	return l
}

// intervals takes the runs that follow one another.
func (t *taker) intervals(least int) []uint32 {
	var l []uint32
	count := t.take(gamma())
	last := 0
runs:
	for i := range count {
		from := 0
		if i == 0 {
			from = t.first(gamma())
		} else {
			from = last + 2 + t.take(gamma())
		}
		n := least + t.take(gamma())
		for v := from; v < from+n; v++ {
			if !t.vertex(v) {
				break runs
			}
			l = append(l, uint32(v))
		}
		last = from + n - 1
	}
	return l
}
