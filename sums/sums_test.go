package sums

import (
	"hash/crc32"
	"math/rand"
	"strings"
	"testing"

	"wattle/api"
)

func some(rnd *rand.Rand, most int) string {
	b := make([]byte, rnd.Intn(most+1))
	rnd.Read(b)
	return string(b)
}

// P3.1: the checksum of the chapter, and that of another program.
func TestCrc(t *testing.T) {
	for s, want := range map[string]uint32{"": 0, "a": 0xc1d04330, "123456789": 0xe3069283} {
		if got := Crc(s); got != want {
			t.Errorf("%q: %x", s, got)
		}
	}
	table := crc32.MakeTable(crc32.Castagnoli)
	rnd := rand.New(rand.NewSource(1))
	for range 200 {
		s, crc := some(rnd, 300), rnd.Uint32()
		if Crc(s) != crc32.Checksum([]byte(s), table) || On(crc, s) != crc32.Update(crc, table, []byte(s)) {
			t.Fatalf("%x", s)
		}
	}
}

// P3.1, P3.3: On and Join.
func TestJoin(t *testing.T) {
	if c, e := Join(Crc("12345"), Crc("6789"), 4); c != 0xe3069283 || e != api.OK || On(Crc("12345"), "6789") != c {
		t.Errorf("%x, %v", c, e)
	}
	for _, n := range []int{-1, MaxPayload + 1} {
		if c, e := Join(1, 2, n); c != 0 || e != api.ErrArg {
			t.Errorf("%d: %x, %v", n, c, e)
		}
	}
	if c, e := Join(5, 3, 0); c != 6 || e != api.OK {
		t.Errorf("no bytes: %x, %v", c, e)
	}
	rnd := rand.New(rand.NewSource(2))
	for range 200 {
		a, b := some(rnd, 100), some(rnd, 2000)
		if c, e := Join(Crc(a), Crc(b), len(b)); c != Crc(a+b) || e != api.OK {
			t.Fatalf("%x, %x", a, b)
		}
		x, y := rnd.Uint32(), rnd.Uint32()
		want := ^On(^x, strings.Repeat("\x00", len(b))) ^ y // without the turnings
		if c, _ := Join(x, y, len(b)); c != want {
			t.Fatalf("%x, %x, %d: %x, not %x", x, y, len(b), c, want)
		}
	}
	long := strings.Repeat("ab", MaxPayload/2)
	if c, e := Join(Crc("x"), Crc(long), len(long)); c != Crc("x"+long) || e != api.OK {
		t.Error("the longest")
	}
}

// P3.2: frames.
func TestFrame(t *testing.T) {
	s, e := Frame(7, "")
	if head := "\x07\x00\x00\x00\x00"; e != api.OK || len(s) != Head || s[:5] != head || s[5:] != number(Crc(head)) {
		t.Errorf("%x, %v", s, e)
	}
	s, _ = Frame(7, "ab")
	if k, p, rest, e := Unframe(s + "x"); k != 7 || p != "ab" || rest != "x" || e != api.OK {
		t.Errorf("%d, %q, %q, %v", k, p, rest, e)
	}
	if s, e := Frame(0, strings.Repeat("a", MaxPayload+1)); s != "" || e != api.ErrArg {
		t.Error("too long a payload")
	}
	long, e := Frame(0, strings.Repeat("a", MaxPayload))
	if _, p, _, f := Unframe(long); e != api.OK || f != api.OK || len(p) != MaxPayload {
		t.Error("the longest")
	}
	over := "\x00" + number(MaxPayload+1)
	body := strings.Repeat("a", MaxPayload+1)
	for _, s := range []string{"", "\x00\x00\x00\x00\x00\x00\x00\x00", over + number(On(Crc(over), body)) + body, strings.Repeat("\xff", 20)} {
		if k, p, rest, e := Unframe(s); k != 0 || p != "" || rest != "" || e != api.ErrForm {
			t.Errorf("%d bytes: %v", len(s), e)
		}
	}
}

// P3.4: a byte that is turned, and an end that is missing, are told.
func TestTold(t *testing.T) {
	rnd := rand.New(rand.NewSource(3))
	for range 100 {
		kind, payload, behind := uint8(rnd.Intn(256)), some(rnd, 60), some(rnd, 20)
		s, _ := Frame(kind, payload)
		if k, p, rest, e := Unframe(s + behind); k != kind || p != payload || rest != behind || e != api.OK {
			t.Fatalf("%x", s)
		}
		for i := range len(s) {
			if _, _, _, e := Unframe(s[:i]); e != api.ErrForm {
				t.Fatalf("%x cut at %d", s, i)
			}
			if i >= 1 && i < 5 {
				continue
			}
			b := []byte(s)
			b[i] ^= byte(1 + rnd.Intn(255))
			if _, _, _, e := Unframe(string(b) + behind); e != api.ErrForm {
				t.Fatalf("%x turned at %d", s, i)
			}
		}
	}
}
