package arc

import (
	"math"
	"math/rand"
	"slices"
	"strconv"
	"testing"

	"wattle/api"
)

func made(t *testing.T, size int) *Cache[int] {
	t.Helper()
	c, e := New[int](size)
	if e != api.OK {
		t.Fatal(e)
	}
	return c
}

func lists(t *testing.T, c *Cache[int], target int, want ...[]int) {
	t.Helper()
	a, b, x, y := c.Lists()
	for i, l := range [][]int{a, b, x, y} {
		if !slices.Equal(l, want[i]) {
			t.Errorf("list %d: %v, want %v", i, l, want[i])
		}
	}
	if c.Target() != target {
		t.Errorf("target %d, want %d", c.Target(), target)
	}
}

// P9.1, P9.2, P9.3: the chapter's examples.
func TestExamples(t *testing.T) {
	c := made(t, 2)
	touch := func(k int, want Touched[int], e api.Errno) {
		t.Helper()
		if x, f := c.Touch(k); x != want || f != e {
			t.Errorf("Touch(%d): %v, %v", k, x, f)
		}
	}
	touch(1, Touched[int]{}, 0)
	touch(2, Touched[int]{}, 0)
	touch(1, Touched[int]{Hit: true}, 0)
	lists(t, c, 0, []int{2}, []int{1}, nil, nil)
	touch(3, Touched[int]{Out: true, Gone: 2}, 0)
	lists(t, c, 0, []int{3}, []int{1}, []int{2}, nil)
	touch(2, Touched[int]{Out: true, Gone: 1}, 0)
	lists(t, c, 1, []int{3}, []int{2}, nil, []int{1})
	if c.Pin(2) != 0 || c.Pin(3) != 0 || c.Pin(3) != 0 || c.Pins(3) != 2 || c.Drop(3) != api.ErrState {
		t.Error("pins")
	}
	touch(4, Touched[int]{}, api.ErrMemory)
	touch(1, Touched[int]{}, api.ErrMemory)
	lists(t, c, 1, []int{3}, []int{2}, nil, []int{1})
	touch(2, Touched[int]{Hit: true}, 0)
	if c.Unpin(3) != 0 || c.Unpin(3) != 0 || c.Unpin(3) != api.ErrState || c.Unpin(4) != api.ErrNone || c.Pin(1) != api.ErrNone || c.Pins(1) != 0 {
		t.Error("unpinned")
	}
	touch(4, Touched[int]{Out: true, Gone: 3}, 0)
	if !c.Has(4) || c.Has(3) || c.Has(1) || c.Has(9) {
		t.Error("Has")
	}
	if c.Drop(9) != api.ErrNone || c.Drop(1) != 0 || c.Drop(1) != api.ErrNone || c.Drop(4) != 0 {
		t.Error("Drop")
	}
	lists(t, c, 1, nil, []int{2}, []int{3}, nil)
}

// P9.1: sizes; R1: nil caches, and keys that no map takes.
func TestRefused(t *testing.T) {
	for _, n := range []int{0, -1, MaxSize + 1} {
		if c, e := New[string](n); c != nil || e != api.ErrArg {
			t.Errorf("size %d: %v", n, e)
		}
	}
	for _, c := range []*Cache[int]{nil, {}} {
		_, e := c.Touch(1)
		if e != api.ErrNil || c.Pin(1) != api.ErrNil || c.Unpin(1) != api.ErrNil || c.Drop(1) != api.ErrNil || c.Pins(1) != 0 || c.Has(1) || c.Target() != 0 {
			t.Error("a nil cache")
		}
		lists(t, c, 0, nil, nil, nil, nil)
	}
	a, _ := New[any](2)
	if _, e := a.Touch([]int{1}); e != api.ErrArg || a.Has([]int{1}) || a.Pin([]int{1}) != api.ErrArg || a.Drop([]int{1}) != api.ErrArg {
		t.Error("a key that is none")
	}
	f, _ := New[float64](3)
	for range 20 {
		f.Touch(math.NaN())
	}
	if l, _, _, _ := f.Lists(); len(l) != 3 {
		t.Error("keys that are not themselves")
	}
}

// model is the chapter's words, told by lists alone.
type model struct {
	size, target int
	l            [4][]int // once, often, was-once, was-often
	pins         map[int]int
}

func (m *model) where(k int) int {
	for i, l := range m.l {
		if slices.Contains(l, k) {
			return i
		}
	}
	return 4
}

func (m *model) out(i, k int) {
	at := slices.Index(m.l[i], k)
	m.l[i] = slices.Delete(slices.Clone(m.l[i]), at, at+1)
}

func (m *model) front(i, k int) { m.l[i] = append([]int{k}, m.l[i]...) }

func (m *model) free(i int) (int, bool) {
	for j := len(m.l[i]) - 1; j >= 0; j-- {
		if k := m.l[i][j]; m.pins[k] == 0 {
			return k, true
		}
	}
	return 0, false
}

func (m *model) room(wasOften bool) Touched[int] {
	if len(m.l[0])+len(m.l[1]) < m.size {
		return Touched[int]{}
	}
	order := []int{1, 0}
	if n := len(m.l[0]); n >= 1 && (n > m.target || n == m.target && wasOften) {
		order = []int{0, 1}
	}
	for _, i := range order {
		if k, ok := m.free(i); ok {
			m.out(i, k)
			m.front(i+2, k)
			return Touched[int]{Out: true, Gone: k}
		}
	}
	panic("no room")
}

func (m *model) touch(k int) (x Touched[int], e api.Errno) {
	at := m.where(k)
	if at < 2 {
		m.out(at, k)
		m.front(1, k)
		return Touched[int]{Hit: true}, 0
	}
	_, a := m.free(0)
	_, b := m.free(1)
	if len(m.l[0])+len(m.l[1]) >= m.size && !a && !b {
		return x, api.ErrMemory
	}
	c := m.size
	switch at {
	case 2:
		m.target = min(c, m.target+max(1, len(m.l[3])/len(m.l[2])))
		x = m.room(false)
		m.out(2, k)
		m.front(1, k)
	case 3:
		m.target = max(0, m.target-max(1, len(m.l[2])/len(m.l[3])))
		x = m.room(true)
		m.out(3, k)
		m.front(1, k)
	default:
		all := len(m.l[0]) + len(m.l[1]) + len(m.l[2]) + len(m.l[3])
		if len(m.l[0])+len(m.l[2]) == c {
			if len(m.l[0]) < c {
				m.l[2] = m.l[2][:len(m.l[2])-1]
				x = m.room(false)
			} else {
				g, _ := m.free(0)
				m.out(0, g)
				x = Touched[int]{Out: true, Gone: g}
			}
		} else if all >= c {
			if all == 2*c {
				m.l[3] = m.l[3][:len(m.l[3])-1]
			}
			x = m.room(false)
		}
		m.front(0, k)
	}
	return x, 0
}

// P9.4, P9.5: as the words tell, and bounded; keys that are named otherwise do the same.
func TestModel(t *testing.T) {
	rnd := rand.New(rand.NewSource(1))
	for range 200 {
		c := 1 + rnd.Intn(8)
		x, m := made(t, c), &model{size: c, pins: map[int]int{}}
		names, _ := New[string](c)
		keys := 1 + rnd.Intn(4*c)
		pinning := rnd.Intn(2) == 0
		for range 300 {
			k := rnd.Intn(keys)
			if rnd.Intn(3) == 0 {
				k = rnd.Intn(1 + keys/3)
			}
			switch r := rnd.Intn(12); {
			case r == 0 && pinning:
				if e := x.Pin(k); (e == 0) != (m.where(k) < 2) || names.Pin(strconv.Itoa(k)) != e {
					t.Fatal("Pin")
				} else if e == 0 {
					m.pins[k]++
				}
			case r == 1 && pinning:
				if e := x.Unpin(k); (e == 0) != (m.pins[k] > 0) || names.Unpin(strconv.Itoa(k)) != e {
					t.Fatal("Unpin")
				} else if e == 0 {
					m.pins[k]--
				}
			case r == 2 && rnd.Intn(4) == 0:
				at := m.where(k)
				if e := x.Drop(k); (e == 0) != (at < 4 && m.pins[k] == 0) || names.Drop(strconv.Itoa(k)) != e {
					t.Fatal("Drop")
				} else if e == 0 {
					m.out(at, k)
				}
			default:
				held := x.Has(k)
				got, e := x.Touch(k)
				want, f := m.touch(k)
				named, g := names.Touch(strconv.Itoa(k))
				if got != want || e != f || got.Hit != held {
					t.Fatalf("Touch(%d): %v, %v, want %v, %v", k, got, e, want, f)
				}
				if g != e || named.Hit != got.Hit || named.Out != got.Out || got.Out && named.Gone != strconv.Itoa(got.Gone) {
					t.Fatal("other names")
				}
			}
			lists(t, x, m.target, m.l[0], m.l[1], m.l[2], m.l[3])
			held := len(m.l[0]) + len(m.l[1])
			if held > c || x.Target() < 0 || x.Target() > c || held+len(m.l[2])+len(m.l[3]) > 2*c || !pinning && len(m.l[0])+len(m.l[2]) > c {
				t.Fatal("bounds")
			}
			if t.Failed() {
				t.FailNow()
			}
		}
	}
}

// P9.5: no more keys than the cache has room for: each is missed once.
func TestHits(t *testing.T) {
	c, rnd, seen := made(t, 5), rand.New(rand.NewSource(2)), map[int]bool{}
	for range 200 {
		k := rnd.Intn(5)
		if x, _ := c.Touch(k); x.Hit != seen[k] || x.Out {
			t.Fatal(k)
		}
		seen[k] = true
	}
}
