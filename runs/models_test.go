package runs

import (
	"math/big"
	"slices"
	"strings"

	"wattle/api"
	"wattle/bfs"
	"wattle/dom"
	"wattle/num"
	"wattle/sketch"
)

// reached are the vertices that a vertex reaches, with the least number of edges, by ways that do not go through another one (-1: any).
func reached(g api.Graph, root, but int) map[int]int {
	at := map[int]int{}
	if root == but {
		return at
	}
	at[root] = 0
	for queue := []int{root}; len(queue) > 0; queue = queue[1:] {
		for _, w := range g[queue[0]] {
			if _, ok := at[int(w)]; !ok && int(w) != but {
				at[int(w)] = at[queue[0]] + 1
				queue = append(queue, int(w))
			}
		}
	}
	return at
}

func distances(g api.Graph, root int) []uint64 {
	at := reached(g, root, -1)
	l := make([]uint64, len(g))
	for v := range g {
		l[v] = bfs.Never
		if d, ok := at[v]; ok {
			l[v] = uint64(d)
		}
	}
	return l
}

func levels(g api.Graph, root int) int {
	most := 0
	for _, d := range reached(g, root, -1) {
		most = max(most, d)
	}
	return most + 1
}

func components(g api.Graph, _ int) []uint64 {
	l := make([]uint64, len(g))
	for v := range g {
		for w := v; w >= 0; w-- {
			_, a := reached(g, v, -1)[w]
			_, b := reached(g, w, -1)[v]
			if a && b {
				l[v] = uint64(w)
			}
		}
	}
	return l
}

// sweeps is how many steps the words of the chapter make.
func sweeps(g api.Graph, _ int) int {
	n := len(g)
	t := turned(g)
	label, colour, mark := make([]int, n), make([]int, n), make([]bool, n)
	for v := range label {
		label[v] = -1
	}
	left := func(v int) bool { return label[v] < 0 }
	some := func(g api.Graph, v int) bool {
		return slices.ContainsFunc(g[v], func(w uint32) bool { return int(w) != v && left(int(w)) })
	}
	for steps, phase := 1, 0; ; steps++ {
		changed := false
		for v := range n {
			if !left(v) {
				continue
			}
			switch phase {
			case 0:
				if !some(g, v) || !some(t, v) {
					label[v], changed = v, true
				}
			case 1:
				for _, w := range g[v] {
					if left(int(w)) && colour[w] > colour[v] {
						colour[w], changed = colour[v], true
					}
				}
			case 2:
				if !mark[v] && slices.ContainsFunc(g[v], func(w uint32) bool { return left(int(w)) && mark[w] && colour[w] == colour[v] }) {
					mark[v], changed = true, true
				}
			}
		}
		for v := range n {
			if changed || phase < 2 && !left(v) {
				continue
			}
			switch phase {
			case 0:
				colour[v] = v
			case 1:
				mark[v] = colour[v] == v
			case 2:
				if left(v) && mark[v] {
					label[v] = colour[v]
				}
			}
		}
		if !changed {
			phase = (phase + 1) % 3
			if phase == 2 {
				for v := range n {
					mark[v] = left(v) && colour[v] == v
				}
			}
		}
		if !slices.Contains(label, -1) {
			return steps
		}
	}
}

func dominators(g api.Graph, root int) []uint64 {
	all := reached(g, root, -1)
	dominates := map[int]map[int]bool{}
	for d := range all {
		dominates[d] = map[int]bool{}
		without := reached(g, root, d)
		for v := range all {
			if _, ok := without[v]; !ok {
				dominates[d][v] = true
			}
		}
	}
	l := make([]uint64, len(g))
	for v := range g {
		l[v] = dom.Never
		if _, ok := all[v]; !ok {
			continue
		}
		if v == root {
			l[v] = uint64(root)
			continue
		}
		for d := range all {
			last := d != v && dominates[d][v]
			for other := range all {
				if other != v && dominates[other][v] && !dominates[other][d] {
					last = false
				}
			}
			if last {
				l[v] = uint64(d)
			}
		}
	}
	return l
}

// cores by peeling sets: for each k what is left when vertices of fewer than k neighbours go.
func cores(g api.Graph, _ int) []uint64 {
	l := make([]uint64, len(g))
	in := make([]bool, len(g))
	for v := range in {
		in[v] = true
	}
	for k := uint64(1); slices.Contains(in, true); k++ {
		for again := true; again; {
			again = false
			for v := range g {
				n := uint64(0)
				for _, w := range g[v] {
					if in[w] {
						n++
					}
				}
				if in[v] && n < k {
					in[v], again = false, true
				}
			}
		}
		for v := range g {
			if in[v] {
				l[v] = k
			}
		}
	}
	return l
}

// peelings is how many steps the words of the chapter make.
func peelings(g api.Graph, _ int) int {
	degree, gone := make([]int, len(g)), make([]bool, len(g))
	for v := range g {
		degree[v] = len(g[v])
	}
	for steps, level := 1, 0; ; steps++ {
		some := false
		for v := range g {
			if gone[v] || degree[v] > level {
				continue
			}
			gone[v], some = true, true
			for _, w := range g[v] {
				if !gone[w] && degree[w] > 0 {
					degree[w]--
				}
			}
		}
		if !some {
			level++
		}
		if !slices.Contains(gone, false) {
			return steps
		}
	}
}

func triangles(g api.Graph, _ int) []uint64 {
	n := uint64(0)
	for a := range g {
		for _, b := range g[a] {
			for _, c := range g[b] {
				if a < int(b) && b < c && slices.Contains(g[a], c) {
					n++
				}
			}
		}
	}
	return []uint64{n}
}

// ballOf is the sketch of a vertex's ball of a radius.
func ballOf(g api.Graph, v, radius, p int, seed uint64) string {
	s, _ := sketch.New(p)
	for w, d := range reached(g, v, -1) {
		if d <= radius {
			s, _ = sketch.Add(s, sketch.Hash(seed, uint64(w)))
		}
	}
	return s
}

// balls is how far a run of balls is, as lists.
type balls struct {
	regs []string
	sums []uint64
	made int
	done bool
}

// text is what Save tells of it.
func (b balls) text() string {
	over := uint64(0)
	if b.done {
		over = 1
	}
	s := num.Text(uint64(b.made), 4) + num.Text(over, 1) + strings.Join(b.regs, "")
	for _, x := range b.sums {
		s += num.Text(x, 8)
	}
	return s
}

// grown is the balls behind a step more of a run of so many rounds.
func (b balls) grown(g api.Graph, rounds int) balls {
	t := b.made + 1
	n := balls{made: t, done: true}
	for v, regs := range b.regs {
		for _, w := range g[v] {
			regs, _ = sketch.Union(regs, b.regs[w])
		}
		n.done = n.done && regs == b.regs[v]
		x, _ := sketch.Estimate(b.regs[v])
		y, _ := sketch.Estimate(regs)
		more := new(big.Int)
		if y > x {
			more.SetUint64(min(y-x, 1<<31-1)).Lsh(more, 32).Div(more, big.NewInt(int64(t)))
		}
		more.Add(more, new(big.Int).SetUint64(b.sums[v]))
		if !more.IsUint64() {
			more.SetUint64(1<<64 - 1)
		}
		n.regs, n.sums = append(n.regs, regs), append(n.sums, more.Uint64())
	}
	n.done = n.done || t == rounds
	return n
}

// growth is the sums, and the steps, of balls of 2^5 registers, at most 9 rounds, and the seed 77.
func growth(g api.Graph) ([]uint64, int) {
	l := make([]uint64, len(g))
	for t := 1; ; t++ {
		same := true
		for v := range g {
			a, b := ballOf(g, v, t-1, 5, 77), ballOf(g, v, t, 5, 77)
			same = same && a == b
			x, _ := sketch.Estimate(a)
			y, _ := sketch.Estimate(b)
			if y > x {
				l[v] += (y - x) << 32 / uint64(t)
			}
		}
		if same || t == 9 {
			return l, t
		}
	}
}

func sums(g api.Graph, _ int) []uint64 {
	l, _ := growth(g)
	return l
}

func rounds(g api.Graph, _ int) int {
	_, n := growth(g)
	return n
}
