package codes

import (
	"math"
	"math/rand"
	"strings"
	"testing"

	"wattle/api"
	"wattle/bitio"
)

func show(t *testing.T, c Code, v uint64) string {
	t.Helper()
	w := bitio.New()
	if e := Put(w, c, v); e != api.OK {
		t.Fatalf("%v of %d: %v", c, v, e)
	}
	s, _ := w.Text()
	r := bitio.Open(s)
	var b strings.Builder
	for range w.Len() {
		if one, _ := r.Bit(); one {
			b.WriteByte('1')
		} else {
			b.WriteByte('0')
		}
	}
	return b.String()
}

// P2.2: the bits that the chapter names.
func TestBits(t *testing.T) {
	for _, x := range []struct {
		c    Code
		v    uint64
		want string
	}{
		{Code{Kind: Unary}, 0, "1"}, {Code{Kind: Unary}, 3, "0001"},
		{Code{Kind: Unary}, 130, strings.Repeat("0", 130) + "1"},
		{Code{Kind: Gamma}, 0, "1"}, {Code{Kind: Gamma}, 1, "010"}, {Code{Kind: Gamma}, 2, "011"}, {Code{Kind: Gamma}, 7, "0001000"},
		{Code{Kind: Delta}, 0, "1"}, {Code{Kind: Delta}, 1, "0100"}, {Code{Kind: Delta}, 7, "00100000"},
		{Code{Minimal, 5}, 0, "00"}, {Code{Minimal, 5}, 2, "10"}, {Code{Minimal, 5}, 3, "110"}, {Code{Minimal, 5}, 4, "111"},
		{Code{Minimal, 1}, 0, ""}, {Code{Minimal, 4}, 3, "11"}, {Code{Minimal, 2}, 1, "1"},
		{Code{Zeta, 2}, 0, "10"}, {Code{Zeta, 2}, 1, "110"}, {Code{Zeta, 2}, 2, "111"}, {Code{Zeta, 2}, 3, "01000"}, {Code{Zeta, 2}, 15, "00100000"},
	} {
		if got := show(t, x.c, x.v); got != x.want {
			t.Errorf("%v of %d: %s, want %s", x.c, x.v, got, x.want)
		}
	}
}

// P2.1: which codes may be, and what they code.
func TestCheck(t *testing.T) {
	for _, x := range []struct {
		c    Code
		e    api.Errno
		most uint64
	}{
		{Code{}, 0, MaxUnary}, {Code{Unary, 1}, api.ErrArg, 0}, {Code{Gamma, 0}, 0, MaxValue}, {Code{Gamma, 1}, api.ErrArg, 0},
		{Code{Delta, 0}, 0, MaxValue}, {Code{Delta, 2}, api.ErrArg, 0}, {Code{Zeta, 0}, api.ErrArg, 0}, {Code{Zeta, 1}, 0, MaxValue},
		{Code{Zeta, 16}, 0, MaxValue}, {Code{Zeta, 17}, api.ErrArg, 0}, {Code{Minimal, 0}, api.ErrArg, 0}, {Code{Minimal, 1}, 0, 0},
		{Code{Minimal, MaxValue + 1}, 0, MaxValue}, {Code{Minimal, MaxValue + 2}, api.ErrArg, 0}, {Code{5, 0}, api.ErrArg, 0}, {Code{255, 1}, api.ErrArg, 0},
	} {
		if x.c.Check() != x.e || x.c.Most() != x.most {
			t.Errorf("%v: %v, %d", x.c, x.c.Check(), x.c.Most())
		}
		_, e := x.c.Len(x.most)
		if e != x.e {
			t.Errorf("%v: Len %v", x.c, e)
		}
		if n, e := x.c.Len(x.most + 1); n != 0 || e != api.ErrArg {
			t.Errorf("%v: above the most: %d, %v", x.c, n, e)
		}
	}
}

// P2.2: what is refused changes nothing.
func TestRefused(t *testing.T) {
	w := bitio.New()
	if Put(nil, Code{9, 9}, 0) != api.ErrNil || Put(w, Code{9, 9}, 0) != api.ErrArg || Put(w, Code{Minimal, 5}, 5) != api.ErrArg || w.Len() != 0 {
		t.Error("wrong arguments of Put")
	}
	if _, e := Read(nil, Code{9, 9}); e != api.ErrNil {
		t.Error("no reader")
	}
	if _, e := Read(bitio.Open("\xff"), Code{9, 9}); e != api.ErrArg {
		t.Error("no code")
	}
	w.Add(strings.Repeat("\x00", bitio.MaxBits/8), bitio.MaxBits-6)
	if e := Put(w, Code{Kind: Gamma}, 7); e != api.ErrFull || w.Len() != bitio.MaxBits-6 {
		t.Errorf("no room: %v", e)
	}
	if e := Put(w, Code{Kind: Gamma}, 6); e != api.OK {
		t.Errorf("just room: %v", e)
	}
	for _, x := range []struct {
		c Code
		s string
	}{
		{Code{Kind: Unary}, ""}, {Code{Kind: Unary}, "\x00"}, {Code{Kind: Unary}, strings.Repeat("\x00", 8192) + "\xff"},
		{Code{Kind: Gamma}, ""}, {Code{Kind: Gamma}, "\x01"}, {Code{Kind: Gamma}, strings.Repeat("\x00", 6) + strings.Repeat("\xff", 20)},
		{Code{Kind: Delta}, "\x01"}, {Code{Kind: Delta}, "\x06" + strings.Repeat("\xff", 20)},
		{Code{Zeta, 3}, "\x00"}, {Code{Zeta, 16}, "\x10"}, {Code{Zeta, 5}, "\x00\x7f\xff\xff\xff\xff\xff\xff\xff\xff"},
		{Code{Minimal, 5}, ""},
	} {
		r := bitio.Open(x.s)
		if v, e := Read(r, x.c); v != 0 || e != api.ErrForm || r.At() != 0 {
			t.Errorf("%v of %x: %d, %v at %d", x.c, x.s, v, e, r.At())
		}
	}
}

func someCode(rnd *rand.Rand) Code {
	switch k := uint8(rnd.Intn(5)); k {
	case Zeta:
		return Code{k, uint64(1 + rnd.Intn(MaxZeta))}
	case Minimal:
		return Code{k, 1 + rnd.Uint64()%(1<<uint(rnd.Intn(48)+1)-1)}
	default:
		return Code{Kind: k}
	}
}

func someNumber(rnd *rand.Rand, c Code) uint64 {
	switch rnd.Intn(8) {
	case 0:
		return c.Most()
	case 1:
		return 0
	}
	v := rnd.Uint64() >> uint(rnd.Intn(64))
	if c.Most() == math.MaxUint64 {
		return v
	}
	return v % (c.Most() + 1)
}

// P2.4: numbers one behind the other, in any codes; each has Len bits.
func TestThereAndBack(t *testing.T) {
	rnd := rand.New(rand.NewSource(1))
	for range 300 {
		w := bitio.New()
		type one struct {
			c Code
			v uint64
		}
		var l []one
		for range rnd.Intn(30) {
			c := someCode(rnd)
			x := one{c, someNumber(rnd, c)}
			at := w.Len()
			n, e := c.Len(x.v)
			if e != api.OK || Put(w, c, x.v) != api.OK || w.Len() != at+n {
				t.Fatalf("%v of %d: %d bits, not %d", c, x.v, w.Len()-at, n)
			}
			l = append(l, x)
		}
		s, _ := w.Text()
		r := bitio.Open(s)
		for _, x := range l {
			if v, e := Read(r, x.c); v != x.v || e != api.OK {
				t.Fatalf("%v of %d: %d, %v", x.c, x.v, v, e)
			}
		}
		if r.At() != w.Len() {
			t.Fatal("not all bits")
		}
	}
}

// P2.4: whatever is read, put anew is the bits that it took.
func TestOneForm(t *testing.T) {
	rnd := rand.New(rand.NewSource(2))
	for range 20000 {
		b := make([]byte, 20)
		rnd.Read(b)
		for i := range rnd.Intn(8) {
			b[i] = 0
		}
		c := someCode(rnd)
		r := bitio.Open(string(b))
		v, e := Read(r, c)
		if e != api.OK {
			continue
		}
		w := bitio.New()
		Put(w, c, v)
		z := bitio.New()
		z.Add(string(b), r.At())
		x, _ := w.Text()
		y, _ := z.Text()
		if x != y || w.Len() != r.At() {
			t.Fatalf("%v of %x: %d, anew %x", c, b, v, x)
		}
	}
}

// P2.5: greater numbers have no fewer bits; zeta 1 is gamma.
func TestSizes(t *testing.T) {
	rnd := rand.New(rand.NewSource(3))
	for range 5000 {
		c := someCode(rnd)
		a, b := someNumber(rnd, c), someNumber(rnd, c)
		x, _ := c.Len(min(a, b))
		y, _ := c.Len(max(a, b))
		if x > y {
			t.Fatalf("%v: %d and %d", c, a, b)
		}
	}
	for range 200 {
		v := someNumber(rnd, Code{Kind: Gamma})
		if show(t, Code{Kind: Gamma}, v) != show(t, Code{Zeta, 1}, v) {
			t.Fatalf("zeta 1 of %d", v)
		}
	}
}

// P2.3, P2.5: Zig and Zag.
func TestZig(t *testing.T) {
	for x, u := range map[int64]uint64{0: 0, -1: 1, 1: 2, -2: 3, math.MinInt64: math.MaxUint64, math.MaxInt64: math.MaxUint64 - 1} {
		if Zig(x) != u || Zag(u) != x {
			t.Errorf("%d: %d, %d", x, Zig(x), Zag(u))
		}
	}
	rnd := rand.New(rand.NewSource(4))
	for range 1000 {
		u := rnd.Uint64()
		if Zig(Zag(u)) != u || Zag(Zig(int64(u))) != int64(u) {
			t.Fatal(u)
		}
	}
}
