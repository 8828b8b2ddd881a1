package bitio

import (
	"math/rand"
	"slices"
	"strings"
	"testing"

	"wattle/api"
)

// P1.1: bits, numbers and texts stand one behind the other.
func TestWriter(t *testing.T) {
	w := New()
	if s, e := w.Text(); s != "" || e != api.OK || w.Len() != 0 {
		t.Fatalf("a new writer has %q, %v", s, e)
	}
	calls := []struct {
		what      string
		got, want api.Errno
	}{
		{"a bit", w.Bit(true), api.OK},
		{"5 in 4", w.Put(5, 4), api.OK},
		{"2 in 1", w.Put(2, 1), api.ErrArg},
		{"0 in 65", w.Put(0, 65), api.ErrArg},
		{"0 in -1", w.Put(0, -1), api.ErrArg},
		{"1 in 0", w.Put(1, 0), api.ErrArg},
		{"0 in 0", w.Put(0, 0), api.OK},
		{"9 bits of a byte", w.Add("a", 9), api.ErrArg},
		{"-1 bits", w.Add("a", -1), api.ErrArg},
		{"no bits", w.Add("", 0), api.OK},
		{"11 bits", w.Add("\xf0\xff", 11), api.OK},
	}
	for _, c := range calls {
		if c.got != c.want {
			t.Errorf("%s: %v, want %v", c.what, c.got, c.want)
		}
	}
	if s, _ := w.Text(); s != "\xaf\x87" || w.Len() != 16 {
		t.Errorf("text %x of %d bits", s, w.Len())
	}
	if w.Put(1<<64-1, 64) != api.OK || w.Len() != 80 {
		t.Error("64 bits")
	}
	if s, _ := w.Text(); s != "\xaf\x87"+strings.Repeat("\xff", 8) {
		t.Errorf("text %x", s)
	}
}

// P1.1: a writer is full at MaxBits, and then nothing is written.
func TestFull(t *testing.T) {
	w := New()
	if e := w.Add(strings.Repeat("a", MaxBits/8), MaxBits-1); e != api.OK {
		t.Fatal(e)
	}
	if w.Put(0, 2) != api.ErrFull || w.Add("ab", 9) != api.ErrFull || w.Len() != MaxBits-1 {
		t.Error("more than MaxBits")
	}
	if w.Bit(true) != api.OK || w.Bit(true) != api.ErrFull || w.Len() != MaxBits {
		t.Error("the last bit")
	}
	if w.Put(0, 0) != api.OK || w.Put(3, 1) != api.ErrArg {
		t.Error("no bits, and a wrong argument, of a full writer")
	}
}

// R1: nil objects, and such as were made otherwise.
func TestNil(t *testing.T) {
	var w *Writer
	var r *Reader
	if w.Bit(true) != api.ErrNil || w.Put(9, 99) != api.ErrNil || w.Add("", 9) != api.ErrNil || w.Len() != 0 {
		t.Error("a nil writer")
	}
	if s, e := w.Text(); s != "" || e != api.ErrNil {
		t.Error("a nil writer's text")
	}
	if b, e := r.Bit(); b || e != api.ErrNil {
		t.Error("a nil reader's bit")
	}
	if v, e := r.Take(99); v != 0 || e != api.ErrNil {
		t.Error("a nil reader's number")
	}
	if r.At() != 0 || r.Left() != 0 || r.Seek(9) != api.ErrNil {
		t.Error("a nil reader's place")
	}
	if (&Writer{}).Put(1, 1) != api.OK || (&Reader{}).Left() != 0 {
		t.Error("made otherwise")
	}
}

// P1.2: a reader goes on, and stays where it can't.
func TestReader(t *testing.T) {
	r := Open("\xa8")
	if v, e := r.Take(3); v != 5 || e != api.OK || r.At() != 3 {
		t.Errorf("three bits: %d, %v", v, e)
	}
	if b, e := r.Bit(); b || e != api.OK || r.Left() != 4 {
		t.Errorf("a bit: %v, %v", b, e)
	}
	for _, n := range []int{-1, 65} {
		if v, e := r.Take(n); v != 0 || e != api.ErrArg || r.At() != 4 {
			t.Errorf("%d bits: %d, %v", n, v, e)
		}
	}
	if v, e := r.Take(5); v != 0 || e != api.ErrForm || r.At() != 4 {
		t.Errorf("too many: %d, %v", v, e)
	}
	if v, e := r.Take(0); v != 0 || e != api.OK {
		t.Errorf("none: %d, %v", v, e)
	}
	if r.Seek(9) != api.ErrArg || r.Seek(-1) != api.ErrArg || r.At() != 4 || r.Seek(8) != api.OK {
		t.Error("places")
	}
	if b, e := r.Bit(); b || e != api.ErrForm || r.At() != 8 {
		t.Error("a bit behind the end")
	}
	if r.Seek(0); r.Left() != 8 {
		t.Error("from the front")
	}
}

// P1.3: numbers of one width.
func TestPack(t *testing.T) {
	s, e := Pack([]uint64{1, 2, 3}, 3)
	if s != "\x29\x80" || e != api.OK {
		t.Errorf("%x, %v", s, e)
	}
	if l, e := Unpack(s, 3, 3); e != api.OK || !slices.Equal(l, []uint64{1, 2, 3}) {
		t.Errorf("%v, %v", l, e)
	}
	if s, e := Pack(nil, 64); s != "" || e != api.OK {
		t.Error("none")
	}
	for _, n := range []int{0, -1, 65} {
		if _, e := Pack(nil, n); e != api.ErrArg {
			t.Errorf("width %d: %v", n, e)
		}
		if _, e := Unpack("", n, 0); e != api.ErrArg {
			t.Errorf("width %d: %v", n, e)
		}
	}
	if _, e := Pack([]uint64{0, 8}, 3); e != api.ErrArg {
		t.Error("8 in 3")
	}
	if _, e := Unpack("", 1, -1); e != api.ErrArg {
		t.Error("count -1")
	}
	for _, c := range []struct {
		s     string
		count int
	}{{s, 2}, {s, 6}, {"\x29\x81", 3}, {"\x29", 3}, {s + "\x00", 3}, {"", 1 << 62}} {
		if l, e := Unpack(c.s, 3, c.count); e != api.ErrForm || len(l) != 0 {
			t.Errorf("%x, %d: %v, %v", c.s, c.count, l, e)
		}
	}
	if _, e := Pack(make([]uint64, MaxBits/64+1), 64); e != api.ErrArg {
		t.Error("too many")
	}
}

// P1.4, P1.5: what was written is read, in the same widths; the text does not hang on the cuts.
func TestThereAndBack(t *testing.T) {
	rnd := rand.New(rand.NewSource(1))
	for range 300 {
		a, b := New(), New()
		type num struct {
			v uint64
			n int
		}
		var l []num
		for range rnd.Intn(40) {
			n := rnd.Intn(65)
			v := rnd.Uint64()
			if n < 64 {
				v &= 1<<n - 1
			}
			l = append(l, num{v, n})
			a.Put(v, n)
			for i := n - 1; i >= 0; i-- {
				b.Bit(v>>i&1 == 1)
			}
		}
		s, _ := a.Text()
		if u, _ := b.Text(); u != s || a.Len() != b.Len() {
			t.Fatalf("bit by bit: %x, not %x", u, s)
		}
		c := New()
		cut := rnd.Intn(a.Len() + 1)
		c.Add(s, cut)
		r := Open(s)
		r.Seek(cut)
		for c.Len() < a.Len() {
			x, _ := r.Bit()
			c.Bit(x)
		}
		if u, _ := c.Text(); u != s {
			t.Fatalf("cut at %d: %x, not %x", cut, u, s)
		}
		r = Open(s)
		for _, x := range l {
			if v, e := r.Take(x.n); v != x.v || e != api.OK {
				t.Fatalf("%d in %d: %d, %v", x.v, x.n, v, e)
			}
		}
		if rest, e := r.Take(r.Left()); r.At()-a.Len() >= 8 || rest != 0 || e != api.OK {
			t.Fatalf("behind it: %d, %v", rest, e)
		}
	}
}

// P1.4: Unpack of Pack.
func TestPackBack(t *testing.T) {
	rnd := rand.New(rand.NewSource(2))
	for n := 1; n <= 64; n++ {
		l := make([]uint64, rnd.Intn(50))
		for i := range l {
			l[i] = rnd.Uint64() >> (64 - n)
		}
		s, e := Pack(l, n)
		if e != api.OK || len(s) != (len(l)*n+7)/8 {
			t.Fatalf("width %d: %v", n, e)
		}
		if m, e := Unpack(s, n, len(l)); e != api.OK || !slices.Equal(m, l) {
			t.Fatalf("width %d: %v, %v", n, m, e)
		}
	}
}
