package page

import (
	"math/rand"
	"slices"
	"sort"
	"strings"
	"testing"

	"wattle/api"
)

// P7.1: sizes.
func TestSizes(t *testing.T) {
	for _, x := range []struct{ size, most, order int }{{512, 127, 8}, {1024, 255, 15}, {4096, 1023, 60}} {
		m, e := Most(x.size)
		o, f := Order(x.size)
		if m != x.most || o != x.order || e != 0 || f != 0 || Size(x.size) != 0 {
			t.Errorf("%d: %d, %d", x.size, m, o)
		}
	}
	for _, size := range []int{0, -512, 511, 513, 4608} {
		m, e := Most(size)
		o, f := Order(size)
		_, g := Encode(Node{Leaf: true}, size)
		if m != 0 || o != 0 || e != api.ErrArg || f != api.ErrArg || g != api.ErrArg || Size(size) != api.ErrArg || Check(Node{Leaf: true}, size) != api.ErrArg {
			t.Errorf("size %d", size)
		}
	}
}

// P7.1: which nodes may stand in a block, and how many bytes they have.
func TestCheck(t *testing.T) {
	long := strings.Repeat("k", 64)
	many := Node{Leaf: true}
	for i := range 5 {
		many.Keys = append(many.Keys, string(rune('a'+i)))
		many.Vals = append(many.Vals, strings.Repeat("v", 98))
	}
	tight := Node{Leaf: true, Keys: many.Keys, Vals: append(slices.Clone(many.Vals[:4]), strings.Repeat("v", 97))}
	kids := []uint32{1, 2, 3, 4, 5, 6, 7, 8}
	for i, x := range []struct {
		n     Node
		bytes int
		want  api.Errno
	}{
		{Node{Leaf: true}, 3, 0},
		{Node{Leaf: true, Keys: []string{"a"}, Vals: []string{"x"}}, 8, 0},
		{Node{Leaf: true, Keys: []string{"b", "a"}, Vals: []string{"", ""}}, 11, api.ErrArg},
		{Node{Leaf: true, Keys: []string{"a", "a"}, Vals: []string{"", ""}}, 11, api.ErrArg},
		{Node{Leaf: true, Keys: []string{long + "k"}, Vals: []string{""}}, 71, api.ErrArg},
		{Node{Leaf: true, Keys: []string{""}, Vals: []string{""}}, 6, api.ErrArg},
		{Node{Leaf: true, Keys: []string{long}, Vals: []string{strings.Repeat("v", 60)}}, 130, 0},
		{Node{Leaf: true, Keys: []string{long}, Vals: []string{strings.Repeat("v", 61)}}, 131, api.ErrArg},
		{Node{Leaf: true, Keys: []string{"a"}}, 7, api.ErrArg},
		{Node{Leaf: true, Vals: []string{"a"}}, 4, api.ErrArg},
		{Node{Leaf: true, Kids: []uint32{1}}, 3, api.ErrArg},
		{tight, 3 + 4*5 + 4*98 + 97, 0},
		{many, 3 + 4*5 + 5*98, api.ErrArg},
		{Node{Keys: []string{"m"}, Kids: []uint32{7, 9}}, 13, 0},
		{Node{Kids: []uint32{7}}, 7, 0},
		{Node{Kids: []uint32{7, 8}}, 11, api.ErrArg},
		{Node{}, 3, api.ErrArg},
		{Node{Kids: []uint32{0}}, 7, api.ErrArg},
		{Node{Keys: []string{"m"}, Kids: []uint32{7, 9}, Vals: []string{""}}, 13, api.ErrArg},
		{Node{Keys: []string{"a", "b", "c", "d", "e", "f", "g"}, Kids: kids}, 3 + 32 + 14, 0},
		{Node{Keys: []string{"a", "b", "c", "d", "e", "f", "g", "h"}, Kids: append(kids, 9)}, 3 + 36 + 16, api.ErrArg},
	} {
		if Bytes(x.n) != x.bytes || Check(x.n, 512) != x.want {
			t.Errorf("node %d: %d bytes, %v", i, Bytes(x.n), Check(x.n, 512))
		}
		s, e := Encode(x.n, 512)
		if e != x.want || (s != "") != (e == 0) {
			t.Errorf("node %d: Encode %v", i, e)
		}
	}
}

// P7.2: blocks.
func TestBlocks(t *testing.T) {
	s, e := Encode(Node{Leaf: true, Keys: []string{"a"}, Vals: []string{"x"}}, 512)
	if want := "\x01\x00\x01\x01\x00\x01ax"; e != 0 || len(s) != 512 || s != want+strings.Repeat("\x00", 504) {
		t.Errorf("%x, %v", s, e)
	}
	s, _ = Encode(Node{Keys: []string{"m"}, Kids: []uint32{7, 1<<32 - 1}}, 512)
	if want := "\x02\x00\x01\x00\x00\x00\x07\x01m\xff\xff\xff\xff"; s != want+strings.Repeat("\x00", 499) {
		t.Errorf("%x", s)
	}
	for i, bad := range []string{"", strings.Repeat("\x00", 512), "\x03" + s[1:], s[:511], s + "x", s[:511] + "x", "\x02\xff\xff" + s[3:], "\x02\x00\x00" + s[3:], "\x02\x00\x01\x00\x00\x00\x00" + s[7:], "\x01\x00\x01\x41" + s[4:], "\x01" + strings.Repeat("\xff", 511), s[:7] + "\x00" + s[8:]} {
		if n, e := Decode(bad); e != api.ErrForm || n.Leaf || len(n.Keys)+len(n.Vals)+len(n.Kids) > 0 {
			t.Errorf("block %d: %v", i, e)
		}
	}
}

func someNode(rnd *rand.Rand, size int) Node {
	n := Node{Leaf: rnd.Intn(2) == 0}
	keys := map[string]int{}
	for range rnd.Intn(size / 40) {
		b := make([]byte, 1+rnd.Intn(64))
		rnd.Read(b)
		keys[string(b)] = 1
	}
	for k := range keys {
		n.Keys = append(n.Keys, k)
	}
	sort.Strings(n.Keys)
	for range n.Keys {
		if n.Leaf {
			n.Vals = append(n.Vals, strings.Repeat("\x00", rnd.Intn(70)))
		} else {
			n.Kids = append(n.Kids, 1+rnd.Uint32()>>1)
		}
	}
	if !n.Leaf {
		n.Kids = append(n.Kids, 1)
	}
	return n
}

func sameNode(a, b Node) bool {
	return a.Leaf == b.Leaf && slices.Equal(a.Keys, b.Keys) && slices.Equal(a.Vals, b.Vals) && slices.Equal(a.Kids, b.Kids)
}

// P7.3, P7.4: there and back; unlike nodes have unlike blocks; inner nodes of few kids always fit.
func TestThereAndBack(t *testing.T) {
	rnd := rand.New(rand.NewSource(1))
	blocks := map[string]Node{}
	for range 3000 {
		size := 512 * (1 + rnd.Intn(8))
		n := someNode(rnd, size)
		order, _ := Order(size)
		s, e := Encode(n, size)
		if !n.Leaf && len(n.Kids) <= order && e != 0 {
			t.Fatalf("an inner node of %d kids: %v", len(n.Kids), e)
		}
		if e != 0 {
			continue
		}
		m, f := Decode(s)
		if f != 0 || !sameNode(m, n) || strings.Trim(s[Bytes(n):], "\x00") != "" {
			t.Fatalf("%v: %v", n, f)
		}
		if o, ok := blocks[s]; ok && !sameNode(o, n) {
			t.Fatal("two nodes of one block")
		}
		blocks[s] = n
		b := []byte(s)
		b[rnd.Intn(min(len(b), Bytes(n)+2))] ^= byte(1 << rnd.Intn(8))
		if m, e := Decode(string(b)); e == 0 {
			if again, _ := Encode(m, size); again != string(b) {
				t.Fatal("another form")
			}
		}
	}
}
