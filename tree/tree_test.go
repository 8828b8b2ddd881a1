package tree

import (
	"math/rand"
	"slices"
	"sort"
	"strings"
	"testing"

	"wattle/api"
	"wattle/page"
)

func made(t *testing.T, size int) *Tree {
	t.Helper()
	x, e := New(size)
	if e != api.OK {
		t.Fatal(e)
	}
	return x
}

// P8.1, P8.2, P8.3: the chapter's examples.
func TestExamples(t *testing.T) {
	x := made(t, 512)
	if x.Root() != 0 || x.Depth() != 0 || x.Need() != 1 || x.Put("a", "x") != api.ErrFull || x.Put("", "") != api.ErrArg {
		t.Error("without keys")
	}
	if x.Give([]int{7, 9}) != 0 || !slices.Equal(x.Given(), []int{7, 9}) || x.Put("a", "x") != 0 || x.Need() != 2 || x.Len() != 1 {
		t.Error("a key")
	}
	root := x.Root()
	if root != 7 && root != 9 {
		t.Errorf("root %d", root)
	}
	if s, e := x.Get("a"); s != "x" || e != 0 {
		t.Error("its value")
	}
	if x.Put("b", "") != api.ErrFull || x.Len() != 1 {
		t.Error("too few numbers")
	}
	x.Give([]int{11})
	long := strings.Repeat("k", 65)
	if x.Put(long, "") != api.ErrArg || x.Put("a", strings.Repeat("v", 124)) != api.ErrArg || x.Put("a", strings.Repeat("v", 123)) != 0 || x.Put("a", "x") != 0 {
		t.Error("entries that may not be")
	}
	for _, k := range []string{"", long} {
		if _, e := x.Get(k); e != api.ErrArg || x.Delete(k) != api.ErrArg {
			t.Errorf("the key %q", k)
		}
	}
	if _, e := x.Get("b"); e != api.ErrNone || x.Delete("b") != api.ErrNone {
		t.Error("no such key")
	}
	if l, e := x.Range("", 5); !slices.Equal(l, []Entry{{"a", "x"}}) || e != 0 {
		t.Error("Range")
	}
	if l, e := x.Range("b", 5); len(l) != 0 || e != 0 {
		t.Error("Range behind it")
	}
	if l, e := x.Range("", 0); len(l) != 0 || e != 0 {
		t.Error("Range of none")
	}
	if l, e := x.Range("", -1); len(l) != 0 || e != api.ErrArg {
		t.Error("Range of -1")
	}
	if l := x.Changed(); len(l) != 1 || l[0].No != root || x.Clean() != 0 || len(x.Changed()) != 0 {
		t.Error("Changed")
	}
	if x.Delete("a") != 0 || x.Root() != 0 || !slices.Equal(x.Freed(), []int{root}) || len(x.Changed()) != 0 {
		t.Error("Freed")
	}
	for _, l := range [][]int{{7}, {9}, {0}, {-1}, {1 << 31}, {20, 20}} {
		if x.Give(append([]int{30}, l...)) != api.ErrArg || slices.Contains(x.Given(), 30) {
			t.Errorf("Give %v", l)
		}
	}
	if x.Clean() != 0 || len(x.Freed()) != 0 || x.Give([]int{root, 1<<31 - 1}) != 0 {
		t.Error("freed numbers are forgotten")
	}
}

// P8.1: pages that are no tree.
func TestLoad(t *testing.T) {
	leaf := func(keys ...string) string {
		n := page.Node{Leaf: true, Keys: keys}
		for range keys {
			n.Vals = append(n.Vals, strings.Repeat("v", 100))
		}
		s, e := page.Encode(n, 512)
		if e != 0 {
			t.Fatal(e)
		}
		return s
	}
	inner := func(key string, kids ...uint32) string {
		keys := []string{key, key + "1", key + "2", key + "3"}[:len(kids)-1]
		s, e := page.Encode(page.Node{Keys: keys, Kids: kids}, 512)
		if e != 0 {
			t.Fatal(e)
		}
		return s
	}
	small, _ := page.Encode(page.Node{Leaf: true, Keys: []string{"x"}, Vals: []string{""}}, 512)
	empty, _ := page.Encode(page.Node{Leaf: true}, 512)
	good := []Page{{3, leaf("m", "n")}, {1, inner("m", 2, 3)}, {2, leaf("a", "b")}}
	for _, x := range []struct {
		what       string
		size, root int
		l          []Page
		want       api.Errno
	}{
		{"none", 512, 0, nil, 0}, {"a root and no page", 512, 1, nil, api.ErrForm}, {"pages and no root", 512, 0, []Page{{1, small}}, api.ErrForm},
		{"a size", 500, 0, nil, api.ErrArg}, {"a root", 512, -1, nil, api.ErrArg}, {"a great root", 512, 1 << 31, nil, api.ErrArg},
		{"a number", 512, 1, []Page{{0, small}}, api.ErrArg}, {"a great number", 512, 1, []Page{{1 << 31, small}}, api.ErrArg}, {"a number twice", 512, 1, []Page{{1, small}, {1, ""}}, api.ErrArg},
		{"a leaf", 512, 1, []Page{{1, small}}, 0}, {"an empty root", 512, 1, []Page{{1, empty}}, api.ErrForm}, {"another size", 1024, 1, []Page{{1, small}}, api.ErrForm}, {"no block", 512, 1, []Page{{1, "x"}}, api.ErrForm},
		{"two leaves", 512, 1, good, 0}, {"another root", 512, 2, good, api.ErrForm}, {"a page too many", 512, 1, append(good[:3:3], Page{4, leaf("x", "y")}), api.ErrForm},
		{"a page that is missing", 512, 1, good[:2], api.ErrForm},
		{"a low leaf", 512, 1, []Page{good[1], good[2], {3, small}}, api.ErrForm},
		{"keys below", 512, 1, []Page{good[1], good[2], {3, leaf("l", "n")}}, api.ErrForm},
		{"keys above", 512, 1, []Page{good[1], good[0], {2, leaf("a", "m")}}, api.ErrForm},
		{"one kid twice", 512, 1, []Page{{1, inner("m", 2, 2)}, good[2]}, api.ErrForm},
		{"a ring", 512, 1, []Page{{1, inner("m", 1, 2)}, good[2]}, api.ErrForm},
		{"a kid too few", 512, 1, []Page{{1, inner("m", 2, 4)}, good[2], {4, inner("n", 3, 5, 6)}, good[0], {5, leaf("n", "n0")}, {6, leaf("n1", "n2")}}, api.ErrForm},
		{"unlike depths", 512, 1, []Page{{1, inner("m", 2, 4)}, good[2], {4, inner("n", 3, 5, 6, 7)}, {3, leaf("m", "m1")}, {5, leaf("n", "n0")}, {6, leaf("n1", "n11")}, {7, leaf("n2", "n3")}}, api.ErrForm},
	} {
		y, e := Load(x.size, x.root, x.l)
		if e != x.want || (y == nil) != (e != 0) {
			t.Errorf("%s: %v", x.what, e)
		}
	}
	y, _ := Load(512, 1, good)
	if y.Len() != 4 || y.Depth() != 2 || y.Root() != 1 || len(y.Given())+len(y.Changed())+len(y.Freed()) != 0 || len(y.Pages()) != 3 || y.Pages()[2] != good[0] {
		t.Error("what was loaded")
	}
}

// R1: nil trees, and such as were made otherwise.
func TestNil(t *testing.T) {
	if x, e := New(500); x != nil || e != api.ErrArg {
		t.Error("a size")
	}
	for _, x := range []*Tree{nil, {}} {
		_, e := x.Get("")
		_, f := x.Range("", -1)
		if e != api.ErrNil || f != api.ErrNil || x.Give([]int{1}) != api.ErrNil || x.Put("", "") != api.ErrNil || x.Delete("") != api.ErrNil || x.Clean() != api.ErrNil {
			t.Error("errors")
		}
		if x.Root()+x.Len()+x.Depth()+x.Need()+len(x.Given())+len(x.Pages())+len(x.Changed())+len(x.Freed()) != 0 {
			t.Error("noughts")
		}
	}
}

// stored is who keeps a tree's pages.
type stored map[int]string

func (s stored) store(x *Tree) {
	for _, p := range x.Changed() {
		s[p.No] = p.Text
	}
	for _, no := range x.Freed() {
		delete(s, no)
	}
	x.Clean()
}

func (s stored) pages() []Page {
	var l []Page
	for no, text := range s {
		l = append(l, Page{no, text})
	}
	return l
}

func entries(model map[string]string, from string, most int) []Entry {
	var l []Entry
	for k, v := range model {
		if k >= from {
			l = append(l, Entry{k, v})
		}
	}
	sort.Slice(l, func(i, j int) bool { return l[i].Key < l[j].Key })
	return l[:min(most, len(l))]
}

// P8.4, P8.5, P8.6: always a tree of pages, as a map tells; what is stored is enough.
func TestModel(t *testing.T) {
	rnd := rand.New(rand.NewSource(1))
	for round := range 12 {
		size := 512 * (1 + round%3)
		most, _ := page.Most(size)
		x, disk, model, next := made(t, size), stored{}, map[string]string{}, 1
		keys := 20 << (round % 6)
		for i := range 1500 {
			for len(x.Given()) < x.Need() {
				x.Give([]int{next})
				next++
			}
			k := strings.Repeat(string(rune('a'+rnd.Intn(26))), 1+rnd.Intn(60)) + string(rune(rnd.Intn(keys)))
			if len(k) > 64 {
				k = k[len(k)-64:]
			}
			given := len(x.Given())
			if rnd.Intn(5) < 3 == (i < 900) {
				v := strings.Repeat("v", rnd.Intn(most-3-len(k)+1)>>(rnd.Intn(4)))
				if e := x.Put(k, v); e != 0 {
					t.Fatal(e)
				}
				model[k] = v
			} else {
				for other := range model {
					if rnd.Intn(3) > 0 {
						k = other
					}
					break
				}
				_, ok := model[k]
				if e := x.Delete(k); (e == 0) != ok || len(x.Given()) < given {
					t.Fatalf("Delete(%q): %v", k, e)
				}
				delete(model, k)
			}
			if rnd.Intn(4) == 0 {
				disk.store(x)
			}
			if rnd.Intn(6) > 0 {
				continue
			}
			from, n := string(rune('a'+rnd.Intn(26))), rnd.Intn(40)
			if l, _ := x.Range(from, n); !slices.Equal(l, entries(model, from, n)) {
				t.Fatal("Range")
			}
			y, e := Load(size, x.Root(), x.Pages())
			if e != 0 || y.Len() != len(model) || x.Len() != len(model) {
				t.Fatalf("no tree of pages: %v", e)
			}
			if l, _ := y.Range("", 1<<30); !slices.Equal(l, entries(model, "", 1<<30)) {
				t.Fatal("other entries")
			}
			full(t, size, x)
			for _, p := range x.Changed() {
				if slices.Contains(x.Freed(), p.No) || slices.Contains(x.Given(), p.No) {
					t.Fatal("changed, and freed or given")
				}
			}
		}
		disk.store(x)
		if y, e := Load(size, x.Root(), disk.pages()); e != 0 || !slices.Equal(y.Pages(), x.Pages()) {
			t.Fatalf("what is stored: %v", e)
		}
		for k, v := range model {
			if s, e := x.Get(k); s != v || e != 0 {
				t.Fatal("Get")
			}
			if x.Delete(k) != 0 {
				t.Fatal("Delete")
			}
		}
		disk.store(x)
		if x.Root() != 0 || len(x.Pages())+len(disk) != 0 {
			t.Fatal("pages without keys")
		}
	}
}

// full says that pages are full enough, and not too full.
func full(t *testing.T, size int, x *Tree) {
	t.Helper()
	order := 1 + (size-7)/69
	for _, p := range x.Pages() {
		n, e := page.Decode(p.Text)
		if e != 0 {
			t.Fatal(e)
		}
		bytes := 0
		for i, k := range n.Keys {
			bytes += len(k)
			if n.Leaf {
				bytes += 3 + len(n.Vals[i])
			}
		}
		switch {
		case len(n.Keys) == 0:
			t.Fatal("a page without keys")
		case p.No == x.Root():
		case n.Leaf && 4*bytes < size-3, !n.Leaf && 2*len(n.Kids) < order:
			t.Fatalf("a page of %d bytes, %d kids", bytes, len(n.Kids))
		}
	}
}
