package list

import (
	"math/rand"
	"slices"
	"strings"
	"testing"

	"wattle/api"
	"wattle/bitio"
)

func show(w *bitio.Writer) string {
	s, _ := w.Text()
	r := bitio.Open(s)
	var b strings.Builder
	for range w.Len() {
		if one, _ := r.Bit(); one {
			b.WriteByte('1')
		} else {
			b.WriteByte('0')
		}
	}
	return b.String()
}

// P13.1: the bits of the chapter's examples, and others by hand.
func TestBits(t *testing.T) {
	p := Params{1, 2, 3}
	for _, x := range []struct {
		p         Params
		x         int
		succ, ref []uint32
		r         int
		want      string
	}{
		{p, 5, nil, nil, 0, "1"},
		{p, 5, nil, nil, 1, "1"},
		{p, 5, []uint32{5, 6, 7}, nil, 0, "00100" + "1" + "010" + "1" + "010"},
		{p, 5, []uint32{3, 5, 6, 7, 9}, []uint32{3, 5, 6, 7, 9}, 1, "00110" + "01" + "1"},
		{p, 5, []uint32{3, 9}, []uint32{3, 5}, 1, "011" + "01" + "010" + "010" + "1" + "0100001"},
		{Params{0, 0, 1}, 5, []uint32{3, 9}, nil, 0, "011" + "00100" + "00110"},
		{p, 5, []uint32{4}, []uint32{3}, 1, "010" + "01" + "010" + "1" + "1" + "1010"},
		{p, 5, []uint32{4}, nil, 1, "010" + "01" + "1" + "1" + "1010"},
		{Params{0, 2, 3}, 0, []uint32{1, 2, 4, 5, 6}, nil, 0, "00110" + "011" + "011" + "1" + "1" + "010"},
	} {
		w := bitio.New()
		e := Encode(w, x.x, x.succ, x.ref, x.r, x.p)
		n, f := Bits(x.x, x.succ, x.ref, x.r, x.p)
		if e != 0 || f != 0 || show(w) != x.want || n != len(x.want) {
			t.Errorf("%v: %s, %v, want %s", x, show(w), e, x.want)
		}
		s, _ := w.Text()
		r := bitio.Open(s)
		h, e := ReadHead(r, x.p)
		if len(x.succ) == 0 {
			x.r = 0
		}
		if h != (Head{len(x.succ), x.r}) || e != 0 {
			t.Errorf("%v: head %v, %v", x, h, e)
		}
		if l, e := Decode(r, x.x, 10, h, x.ref, x.p); !slices.Equal(l, x.succ) || e != 0 || r.At() != n {
			t.Errorf("%v: %v, %v", x, l, e)
		}
	}
}

// Wrong arguments, and writers without room.
func TestRefused(t *testing.T) {
	p := Params{1, 2, 3}
	for _, x := range []struct {
		p    Params
		want api.Errno
	}{{p, 0}, {Params{0, 0, 1}, 0}, {Params{16, 64, 16}, 0}, {Params{17, 0, 1}, api.ErrArg}, {Params{-1, 0, 1}, api.ErrArg}, {Params{0, 1, 1}, api.ErrArg}, {Params{0, -1, 1}, api.ErrArg}, {Params{0, 65, 1}, api.ErrArg}, {Params{0, 0, 0}, api.ErrArg}, {Params{0, 0, 17}, api.ErrArg}} {
		_, e := ReadHead(bitio.Open("\xff"), x.p)
		if x.p.Check() != x.want || e != x.want {
			t.Errorf("%v: %v, %v", x.p, x.p.Check(), e)
		}
	}
	w := bitio.New()
	for i, x := range []struct {
		x         int
		succ, ref []uint32
		r         int
		p         Params
	}{
		{-1, nil, nil, 0, p}, {65536, nil, nil, 0, p}, {0, []uint32{2, 1}, nil, 0, p}, {0, []uint32{1, 1}, nil, 0, p}, {0, []uint32{65536}, nil, 0, p},
		{0, nil, []uint32{2, 1}, 1, p}, {0, nil, nil, 2, p}, {0, nil, nil, -1, p}, {0, nil, []uint32{1}, 0, p}, {0, nil, nil, 0, Params{}},
	} {
		n, e := Bits(x.x, x.succ, x.ref, x.r, x.p)
		if f := Encode(w, x.x, x.succ, x.ref, x.r, x.p); e != api.ErrArg || f != api.ErrArg || n != 0 || w.Len() != 0 {
			t.Errorf("arguments %d: %v, %v", i, e, f)
		}
	}
	if Encode(nil, -1, nil, nil, 0, p) != api.ErrNil {
		t.Error("no writer")
	}
	w.Add(strings.Repeat("a", bitio.MaxBits/8), bitio.MaxBits-3)
	if Encode(w, 0, []uint32{1}, nil, 0, p) != api.ErrFull || w.Len() != bitio.MaxBits-3 || Encode(w, 0, nil, nil, 0, p) != 0 {
		t.Error("no room")
	}
	r := bitio.Open("\xff")
	for i, x := range []struct {
		x, n int
		h    Head
		ref  []uint32
		p    Params
	}{
		{-1, 9, Head{}, nil, p}, {0, -1, Head{}, nil, p}, {0, 65537, Head{}, nil, p}, {0, 9, Head{-1, 0}, nil, p}, {0, 9, Head{65537, 0}, nil, p}, {0, 9, Head{0, 2}, nil, p},
		{0, 9, Head{0, -1}, nil, p}, {0, 9, Head{1, 0}, []uint32{1}, p}, {0, 9, Head{1, 1}, []uint32{2, 1}, p}, {0, 9, Head{}, nil, Params{}},
	} {
		if l, e := Decode(r, x.x, x.n, x.h, x.ref, x.p); e != api.ErrArg || len(l) != 0 {
			t.Errorf("arguments %d: %v", i, e)
		}
	}
	_, e := ReadHead(nil, Params{})
	_, f := Decode(nil, -1, 0, Head{}, nil, p)
	if e != api.ErrNil || f != api.ErrNil {
		t.Error("no reader")
	}
	if l, e := Decode(r, 0, 9, Head{0, 1}, nil, p); len(l) != 0 || e != api.ErrForm {
		t.Error("no successors, and a reference")
	}
	if l, e := Decode(r, 0, 9, Head{}, nil, p); len(l) != 0 || e != 0 || r.At() != 0 {
		t.Error("no successors")
	}
}

// bitsOf is a reader of bits that are written as digits.
func bitsOf(s string) *bitio.Reader {
	w := bitio.New()
	for _, c := range s {
		w.Bit(c == '1')
	}
	text, _ := w.Text()
	return bitio.Open(text)
}

// P13.2: forms that Encode does not write are none.
func TestNoForm(t *testing.T) {
	p := Params{1, 2, 3}
	for _, x := range []struct {
		what string
		h    Head
		ref  []uint32
		bits string
		n    int
	}{
		{"an interval told by residuals", Head{2, 0}, nil, "1" + "100" + "100", 9},
		{"two intervals that are one", Head{4, 0}, nil, "011" + "1" + "1" + "1", 9},
		{"a copy told by a residual", Head{1, 1}, []uint32{5}, "010" + "1" + "1" + "100", 9},
		{"a last run that is empty", Head{1, 1}, []uint32{5}, "010" + "010", 9},
		{"runs beyond the reference", Head{1, 1}, []uint32{5}, "010" + "011", 9},
		{"a vertex that is none", Head{1, 0}, nil, "1" + "100", 5},
		{"a vertex below 0", Head{1, 0}, nil, "1" + "01" + "00100", 9},
		{"a copy that is no vertex", Head{1, 1}, []uint32{5}, "1", 5},
		{"more copies than successors", Head{1, 1}, []uint32{5, 6}, "1", 9},
		{"an interval too long", Head{2, 0}, nil, "010" + "1" + "010", 9},
		{"no bits", Head{2, 0}, nil, "", 9},
	} {
		r := bitsOf(x.bits)
		if l, e := Decode(r, 5, x.n, x.h, x.ref, p); e != api.ErrForm || len(l) != 0 || r.At() != 0 {
			t.Errorf("%s: %v, %v", x.what, l, e)
		}
	}
	for _, s := range []string{"", "0000000", "0000000000000000" + "1" + "0000000000000010" + "1", "010" + "001", "010" + "0"} {
		r := bitio.Open("")
		if s != "" {
			r = bitsOf(s)
		}
		if h, e := ReadHead(r, p); e != api.ErrForm || h != (Head{}) || r.At() != 0 {
			t.Errorf("head %s: %v, %v", s, h, e)
		}
	}
}

func some(rnd *rand.Rand, n int) []uint32 {
	var l []uint32
	for v := rnd.Intn(n); v < n && len(l) < 60; v += 1 + rnd.Intn(6)*rnd.Intn(2)*rnd.Intn(9) {
		l = append(l, uint32(v))
	}
	return l
}

// P13.3: there and back, by any reference; what is told, encoded anew, is the bits.
func TestBack(t *testing.T) {
	rnd := rand.New(rand.NewSource(1))
	for range 4000 {
		p := Params{rnd.Intn(17), []int{0, 2, 3, 4, 64}[rnd.Intn(5)], 1 + rnd.Intn(16)}
		n := 1 + rnd.Intn(300)
		x, r := rnd.Intn(n), rnd.Intn(p.Window+1)
		succ, ref := some(rnd, n), []uint32(nil)
		if r > 0 {
			ref = some(rnd, n)
			for _, v := range succ {
				if rnd.Intn(2) == 0 {
					ref = append(ref, v)
				}
			}
			slices.Sort(ref)
			ref = slices.Compact(ref)
		}
		w := bitio.New()
		w.Put(0, rnd.Intn(9))
		at := w.Len()
		if e := Encode(w, x, succ, ref, r, p); e != 0 {
			t.Fatal(e)
		}
		end := w.Len()
		w.Put(rnd.Uint64(), 64)
		s, _ := w.Text()
		rd := bitio.Open(s)
		rd.Seek(at)
		h, _ := ReadHead(rd, p)
		behind := rd.At()
		if l, e := Decode(rd, x, n, h, ref, p); e != 0 || !slices.Equal(l, succ) || rd.At() != end {
			t.Fatalf("%v by %v: %v, %v", succ, ref, l, e)
		}
		// any bits
		b := []byte(s)
		b[rnd.Intn(len(b))] ^= byte(1 << rnd.Intn(8))
		rd = bitio.Open(string(b))
		rd.Seek(at)
		h, e := ReadHead(rd, p)
		if e != 0 || h.Ref == 0 && len(ref) > 0 {
			continue
		}
		behind = rd.At()
		l, e := Decode(rd, x, n, h, ref, p)
		if e != 0 {
			if rd.At() != behind || e != api.ErrForm {
				t.Fatal("the place")
			}
			continue
		}
		a, c := bitio.New(), bitio.New()
		Encode(a, x, l, ref, h.Ref, p)
		all := bitio.Open(string(b))
		all.Seek(at)
		for all.At() < rd.At() {
			bit, _ := all.Bit()
			c.Bit(bit)
		}
		if show(a) != show(c) {
			t.Fatal("another form")
		}
	}
}

// P13.4: few bits; R3: lists stay.
func TestFewBits(t *testing.T) {
	p := Params{7, 4, 3}
	succ := []uint32{3, 9, 11, 40}
	n, _ := Bits(5, succ, succ, 2, p)
	head, _ := Bits(5, succ, nil, 2, p)
	none, _ := Bits(5, []uint32{3, 9, 11, 40}, nil, 0, p)
	if n != 5+3+1 || head < n || none < n {
		t.Errorf("%d bits", n)
	}
	row := []uint32{7, 8, 9, 10}
	if n, _ := Bits(7, row, nil, 0, p); n != 5+1+3+1+1 {
		t.Errorf("a row: %d bits", n)
	}
	if !slices.Equal(succ, []uint32{3, 9, 11, 40}) {
		t.Error("changed")
	}
}
