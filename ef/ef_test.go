package ef

import (
	"math/rand"
	"slices"
	"strings"
	"testing"

	"wattle/api"
)

// source counts what is read of a text, and may refuse.
type source struct {
	text  string
	bytes int
	calls int
	e     api.Errno
}

func (s *source) Length() int { return len(s.text) }

func (s *source) ReadAt(off, n int) (string, api.Errno) {
	s.calls++
	s.bytes += n
	if s.e != api.OK {
		return "", s.e
	}
	return Text(s.text).ReadAt(off, n)
}

func opened(t *testing.T, s string) *List {
	t.Helper()
	x, e := Open(Text(s))
	if e != api.OK {
		t.Fatal(e)
	}
	return x
}

// P12.1: the bytes of the chapter's examples.
func TestBuild(t *testing.T) {
	if s, e := Build(nil); s != strings.Repeat("\x00", 12) || e != 0 {
		t.Errorf("none: %x", s)
	}
	s, e := Build([]uint64{2, 3, 5})
	if s != "\x00\x00\x00\x03\x00\x00\x00\x00\x00\x00\x00\x06\x60\x68\x00\x00\x00\x01" || e != 0 {
		t.Errorf("%x", s)
	}
	x := opened(t, s)
	if v, e := x.Get(1); v != 3 || e != 0 || x.Len() != 3 {
		t.Error("Get")
	}
	for v, want := range map[uint64]int{0: 0, 2: 0, 4: 2, 5: 2, 6: 3, 1<<64 - 1: 3} {
		if i, e := x.Next(v); i != want || e != 0 {
			t.Errorf("Next(%d): %d", v, i)
		}
	}
	for _, i := range []int{-1, 3} {
		if _, e := x.Get(i); e != api.ErrArg {
			t.Errorf("Get(%d): %v", i, e)
		}
	}
	for _, l := range [][]uint64{{3, 2}, {Most + 1}, {1<<64 - 1}, make([]uint64, MaxLen+1)} {
		if s, e := Build(l); s != "" || e != api.ErrArg {
			t.Errorf("%v", e)
		}
	}
	if l, e := opened(t, "\x00\x00\x00\x00\x00\x00\x00\x00\x00\x00\x00\x00").All(); len(l) != 0 || e != 0 {
		t.Error("none of none")
	}
}

// P12.1: sizes, and texts as sources.
func TestSize(t *testing.T) {
	for _, x := range []struct {
		n    int
		last uint64
		want int
		e    api.Errno
	}{{3, 5, 18, 0}, {0, 0, 12, 0}, {0, 1, 0, api.ErrArg}, {-1, 0, 0, api.ErrArg}, {MaxLen + 1, 0, 0, api.ErrArg}, {1, Most + 1, 0, api.ErrArg}, {1, Most, 12 + 6 + 1 + 4, 0}, {1, 0, 17, 0}} {
		if n, e := Size(x.n, x.last); n != x.want || e != x.e {
			t.Errorf("Size(%d, %d): %d, %v", x.n, x.last, n, e)
		}
	}
	for _, x := range []struct {
		off, n int
		want   string
		e      api.Errno
	}{{1, 2, "bc", 0}, {3, 0, "", 0}, {3, 1, "", api.ErrArg}, {-1, 1, "", api.ErrArg}, {0, -1, "", api.ErrArg}, {1 << 62, 1 << 62, "", api.ErrArg}} {
		if s, e := Text("abc").ReadAt(x.off, x.n); s != x.want || e != x.e {
			t.Errorf("ReadAt(%d, %d): %q, %v", x.off, x.n, s, e)
		}
	}
	if Text("abc").Length() != 3 {
		t.Error("Length")
	}
}

// The errors: sources that are none, that refuse, whose bytes are no list's.
func TestRefused(t *testing.T) {
	if x, e := Open(nil); x != nil || e != api.ErrNil {
		t.Error("no source")
	}
	good, _ := Build([]uint64{2, 3, 5})
	for i, s := range []string{"", good[:11], good[:17], good + "x", "\x01\x00\x00\x01" + good[4:], "\x00\x00\x00\x00" + good[4:], good[:4] + "\x00\x00\x00\x00\x00\x00\x00\x00" + good[12:], good[:4] + "\x00\x01" + good[6:]} {
		if x, e := Open(Text(s)); x != nil || e != api.ErrForm {
			t.Errorf("bytes %d: %v", i, e)
		}
	}
	if x, e := Open(&source{text: good, e: api.ErrDown}); x != nil || e != api.ErrDown {
		t.Error("a source that refuses")
	}
	s := &source{text: good}
	x, _ := Open(s)
	if s.bytes != Head {
		t.Error("more is read than the head")
	}
	s.e = api.ErrMemory
	_, e := x.Get(0)
	_, f := x.Next(0)
	_, g := x.All()
	if e != api.ErrMemory || f != api.ErrMemory || g != api.ErrMemory {
		t.Error("a source that refuses later")
	}
	for _, x := range []*List{nil, {}} {
		_, e := x.Get(-1)
		_, f := x.Next(0)
		_, g := x.All()
		if e != api.ErrNil || f != api.ErrNil || g != api.ErrNil || x.Len() != 0 {
			t.Error("a nil list")
		}
	}
	if _, e := Open(liar{}); e != api.ErrForm {
		t.Error("a source that tells too few bytes")
	}
	if _, e := Open((*source)(nil)); e != api.ErrForm {
		t.Error("a source that panics")
	}
}

type liar struct{}

func (liar) ReadAt(off, n int) (string, api.Errno) { return "", api.OK }
func (liar) Length() int                           { return 20 }

func some(rnd *rand.Rand) []uint64 {
	n := rnd.Intn(400)
	top := uint64(1)<<rnd.Intn(49) - 1
	top = min(max(top, 1), Most)
	l := make([]uint64, n)
	for i := range l {
		l[i] = rnd.Uint64() % (top + 1)
		if rnd.Intn(3) == 0 {
			l[i] /= 1 << rnd.Intn(20)
		}
	}
	slices.Sort(l)
	return l
}

// P12.3, P12.4, P12.5: there and back; few bits; few bytes are read.
func TestBack(t *testing.T) {
	rnd := rand.New(rand.NewSource(1))
	for range 400 {
		l := some(rnd)
		s, e := Build(l)
		if e != 0 {
			t.Fatal(e)
		}
		last := uint64(0)
		if len(l) > 0 {
			last = l[len(l)-1]
		}
		if n, e := Size(len(l), last); n != len(s) || e != 0 {
			t.Fatalf("%d bytes, not %d", len(s), n)
		}
		for b := range 48 {
			if n := uint64(len(l)); last < n<<b && 8*(len(s)-Head-4*((len(l)+63)/64)) > (b+2)*len(l)+16 {
				t.Fatalf("%d numbers up to %d in %d bytes", n, last, len(s))
			}
		}
		src := &source{text: s}
		x, e := Open(src)
		if e != 0 || x.Len() != len(l) {
			t.Fatal(e)
		}
		if all, e := x.All(); e != 0 || !slices.Equal(all, l) {
			t.Fatalf("All: %v", e)
		}
		for range 30 {
			if len(l) == 0 {
				break
			}
			i := rnd.Intn(len(l))
			if v, e := x.Get(i); v != l[i] || e != 0 {
				t.Fatalf("Get(%d): %d, %v, not %d", i, v, e, l[i])
			}
			v := l[i] + uint64(rnd.Intn(3)) - 1
			want, _ := slices.BinarySearch(l, v)
			if j, e := x.Next(v); j != want || e != 0 {
				t.Fatalf("Next(%d): %d, not %d", v, j, want)
			}
		}
		b := []byte(s)
		at := rnd.Intn(len(b))
		b[at] ^= byte(1 + rnd.Intn(255))
		y, e := Open(Text(b))
		if e != 0 {
			continue
		}
		if all, e := y.All(); e == 0 {
			if again, _ := Build(all); again != string(b) {
				t.Fatal("another form")
			}
		}
		for i := range y.Len() {
			if v, e := y.Get(i); e == 0 && v >= y.u {
				t.Fatal("a number too great")
			}
		}
		if i, e := y.Next(rnd.Uint64() >> rnd.Intn(64)); i < 0 || i > y.Len() || e != 0 && e != api.ErrForm {
			t.Fatal("Next of no list")
		}
	}
}

// P12.2: a number of a long list is got by reading a few bytes.
func TestFewBytes(t *testing.T) {
	l := make([]uint64, 100000)
	for i := range l {
		l[i] = uint64(i * 37)
	}
	s, _ := Build(l)
	src := &source{text: s}
	x, _ := Open(src)
	src.bytes = 0
	if v, e := x.Get(77777); v != l[77777] || e != 0 || src.bytes > 100 {
		t.Errorf("%d, %v: %d bytes", v, e, src.bytes)
	}
}

// digits are a number's bits.
func digits(v uint64, n int) string {
	s := ""
	for i := n - 1; i >= 0; i-- {
		s += string(rune('0' + v>>i&1))
	}
	return s
}

// packed is the text of bits, filled.
func packed(bits string) string {
	for len(bits)%8 > 0 {
		bits += "0"
	}
	var b []byte
	for i := 0; i < len(bits); i += 8 {
		v := byte(0)
		for _, c := range bits[i : i+8] {
			v = v<<1 | byte(c-'0')
		}
		b = append(b, v)
	}
	return string(b)
}

// P12.1: the bytes, bit by bit as the words tell them.
func TestBytes(t *testing.T) {
	rnd := rand.New(rand.NewSource(2))
	for range 300 {
		l := some(rnd)
		n, u, b, h := uint64(len(l)), uint64(0), 0, uint64(0)
		if n > 0 {
			u = l[n-1] + 1
			for n<<(b+1) <= u {
				b++
			}
			h = (u-1)>>b + n
		}
		low, samples := "", ""
		high := []byte(strings.Repeat("0", int(h)))
		for i, v := range l {
			low += digits(v&(1<<b-1), b)
			at := v>>b + uint64(i)
			high[at] = '1'
			if i%64 == 0 {
				samples += digits(at, 32)
			}
		}
		want := packed(digits(n, 32)+digits(u, 64)) + packed(low) + packed(string(high)) + packed(samples)
		if s, e := Build(l); s != want || e != 0 {
			t.Fatalf("%v: %x, not %x", l, s, want)
		}
	}
}
