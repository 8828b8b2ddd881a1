package tree

import (
	"wattle/api"
	"wattle/page"
)

// Load makes a tree of pages.
func Load(size, root int, l []Page) (*Tree, api.Errno) {
	t, e := New(size)
	if e != api.OK {
		return nil, e
	}
	if root < 0 || root > maxNo {
		return nil, api.ErrArg
	}
	seen := map[int]int{}
	for _, p := range l {
		if p.No < 1 || p.No > maxNo || seen[p.No] > 0 {
			return nil, api.ErrArg
		}
		seen[p.No] = 1
	}
	for _, p := range l {
		n, e := page.Decode(p.Text)
		if e != api.OK || len(p.Text) != size {
			return nil, api.ErrForm
		}
		t.nodes[p.No] = &n
	}
	t.root = root
	if !t.whole() {
		return nil, api.ErrForm
	}
	t.Clean()
	return t, api.OK
}

// bounds are what the keys beneath a kid are not below, and below (where there is such a key).
type bounds struct {
	from, to string
	ends     bool
}

func (b bounds) have(l []string) bool {
	return len(l) == 0 || l[0] >= b.from && (!b.ends || l[len(l)-1] < b.to)
}

// kid are the bounds of a node's kid.
func (b bounds) kid(n *page.Node, i int) bounds {
	if i > 0 {
		b.from = n.Keys[i-1]
	}
	if i < len(n.Keys) {
		b.to, b.ends = n.Keys[i], true
	}
	return b
}

// whole says whether the nodes are a tree of pages, and counts the keys.
func (t *Tree) whole() bool {
	if t.root == 0 {
		return len(t.nodes) == 0
	}
	depth := 0 // of the first leaf
	seen := map[int]int{}
	var down func(no, way int, b bounds) bool
	down = func(no, way int, b bounds) bool {
		n := t.nodes[no]
		if n == nil || seen[no] > 0 || !b.have(n.Keys) || no != t.root && t.low(n) || no == t.root && len(n.Keys) == 0 {
			return false
		}
		seen[no] = 1
		if n.Leaf {
			if depth == 0 {
				depth = way
			}
			t.count += len(n.Keys)
			return way == depth
		}
		for i, kid := range n.Kids {
			if !down(int(kid), way+1, b.kid(n, i)) {
				return false
			}
		}
		return true
	}
	return down(t.root, 1, bounds{}) && len(seen) == len(t.nodes)
}
