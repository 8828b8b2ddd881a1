package runs

import (
	"math/rand"
	"slices"
	"strings"
	"testing"

	"wattle/api"
	"wattle/ball"
	"wattle/bv"
	"wattle/num"
	"wattle/pool"
	"wattle/walk"
)

func ballFrom(t *testing.T, s *pool.Space, g *walk.Graph, p, rounds int, seed uint64) *ball.Run {
	t.Helper()
	r, e := ball.New(s, g, p, rounds, seed)
	if e != api.OK {
		t.Fatal(e)
	}
	return r
}

// P28.1, P28.2: the chapter's examples.
func TestBall(t *testing.T) {
	g := walked(api.Graph{{1}, {2}, {}}, bv.Usual())
	r := ballFrom(t, space(20, 2), g, 4, 10, 0)
	for i, want := range []bool{false, false, true} {
		if done, e := r.Step(); done != want || e != 0 {
			t.Errorf("step %d: %v, %v", i, done, e)
		}
	}
	regs, e := r.Registers(0)
	if e != 0 || len(regs) != 16 || strings.Count(regs, "\x00") != 13 || regs[14] == 0 || regs[6] == 0 || regs[0] == 0 {
		t.Errorf("%x, %v", regs, e)
	}
	if v, e := r.Value(2); v != 0 || e != 0 {
		t.Error("Value(2)")
	}
	if v, e := r.Value(0); v != 1<<32+1<<31 || e != 0 {
		t.Error("Value(0)", v)
	}
	for _, v := range []int{-1, 3} {
		if s, e := r.Registers(v); s != "" || e != api.ErrArg {
			t.Error("Registers", v)
		}
	}
	text, _ := r.Save()
	if len(text) != 5+48+24 || text[:5] != "\x00\x00\x00\x03\x01" || text[5:21] != regs || text[53:61] != num.Text(1<<32+1<<31, 8) {
		t.Errorf("%x", text)
	}
	for i, x := range []struct {
		text string
		want api.Errno
	}{{"\x00\x00\x00\x0a" + text[4:], 0}, {"\x00\x00\x00\x0b" + text[4:], api.ErrForm}, {text[:5] + "\x3d" + text[6:], 0}, {text[:5] + "\x3e" + text[6:], api.ErrForm}, {text[:50], api.ErrForm}} {
		if e := r.Load(x.text); e != x.want {
			t.Errorf("text %d: %v", i, e)
		}
	}
	for i, x := range []struct {
		p, rounds int
		want      api.Errno
	}{{3, 1, api.ErrArg}, {17, 1, api.ErrArg}, {4, 0, api.ErrArg}, {4, 1001, api.ErrArg}, {16, 1000, api.ErrFull}, {4, 1000, 0}} {
		if r, e := ball.New(space(20, 2), g, x.p, x.rounds, 0); e != x.want || (r == nil) != (e != 0) {
			t.Errorf("call %d: %v", i, e)
		}
	}
	var none *ball.Run
	if _, e := none.Registers(0); e != api.ErrNil {
		t.Error("a nil run")
	}
	if _, e := (&ball.Run{}).Registers(0); e != api.ErrNil {
		t.Error("made otherwise")
	}
	r.Close()
	if _, e := r.Registers(9); e != api.ErrState {
		t.Error("closed")
	}
	r = ballFrom(t, space(20, 2), g, 4, 1, 0)
	if done, e := r.Step(); !done || e != 0 {
		t.Error("one round")
	}
	if r, e := ball.New(space(4000, 2), walked(make(api.Graph, 65536), bv.Usual()), 10, 1, 0); r != nil || e != api.ErrArg {
		t.Error("more numbers than a vector has", e)
	}
}

// A sum stops at 2^64 - 1.
func TestBallSum(t *testing.T) {
	g := walked(api.Graph{{1}, {}}, bv.Usual())
	r := ballFrom(t, space(20, 2), g, 4, 9, 0)
	text, _ := r.Save()
	if e := r.Load(text[:5+32] + "\xff\xff\xff\xff\xff\xff\xff\xf0" + num.Text(7, 8)); e != 0 {
		t.Fatal(e)
	}
	toEnd(t, r)
	if l := values(t, r); l[0] != 1<<64-1 || l[1] != 7 {
		t.Error(l)
	}
}

// P28.3, P28.5: the registers of each round, of any exponent and seed; sums never get less.
func TestBallRegisters(t *testing.T) {
	rnd := rand.New(rand.NewSource(11))
	for range 40 {
		n, p, seed := 1+rnd.Intn(25), 4+rnd.Intn(5), rnd.Uint64()
		g := some(rnd, n, false)
		s := space(200, 1+rnd.Intn(4))
		r := ballFrom(t, s, walked(g, bv.Usual()), p, 30, seed)
		last := make([]uint64, n)
		for done, radius := false, 0; !done; radius++ {
			text, _ := r.Save()
			for v := range g {
				if regs, e := r.Registers(v); e != 0 || regs != ballOf(g, v, radius, p, seed) {
					t.Fatalf("vertex %d, round %d: %x", v, radius, regs)
				}
				at := 5 + n<<p + 8*v
				sum := num.Of(text[at : at+8])
				if sum < last[v] || len(g[v]) == 0 && sum > 0 {
					t.Fatal("a sum")
				}
				last[v] = sum
			}
			done, _ = r.Step()
		}
		if s.Stats().Most > 0 {
			t.Fatal("pinned")
		}
	}
}

// P28.1, P28.2: a text that tells as many steps as there are rounds, and that it is not done: it ends where no register becomes another one.
func TestBallBehindLast(t *testing.T) {
	g := walked(api.Graph{nil, {0}, {1}}, bv.Usual())
	for rounds := 1; rounds < 4; rounds++ {
		r := ballFrom(t, space(20, 2), g, 4, rounds, 0)
		text, _ := r.Save()
		if e := r.Load(num.Text(uint64(rounds), 4) + text[4:]); e != 0 {
			t.Fatal(e)
		}
		for i, want := range []bool{false, false, true} {
			if done, e := r.Step(); done != want || e != 0 || r.Steps() != rounds+i+1 {
				t.Errorf("step %d behind %d rounds: %v, %v", i+1, rounds, done, e)
			}
			if text, e := r.Save(); e != 0 || r.Load(text) != api.ErrForm {
				t.Error("a text of more steps than rounds")
			}
		}
		if _, e := r.Step(); e != api.ErrDone {
			t.Error("behind the end", e)
		}
	}
}

// anyBalls is balls that no run told, of at most so many rounds.
func anyBalls(rnd *rand.Rand, n, p, rounds int) balls {
	b := balls{made: rnd.Intn(rounds + 1)}
	for range n {
		regs := make([]byte, 1<<p)
		for range rnd.Intn(6) {
			regs[rnd.Intn(len(regs))] = byte(rnd.Intn(66 - p))
		}
		b.regs = append(b.regs, string(regs))
		b.sums = append(b.sums, rnd.Uint64()>>rnd.Intn(65)|uint64(rnd.Intn(2))<<63)
	}
	return b
}

// P28.1, P28.2: from any text on, each step is the chapter's.
func TestBallAnyText(t *testing.T) {
	rnd := rand.New(rand.NewSource(13))
	behind := 0
	for range 300 {
		n, p, rounds := 1+rnd.Intn(12), 4+rnd.Intn(3), 1+rnd.Intn(5)
		g := some(rnd, n, false)
		r := ballFrom(t, space(200, 1+rnd.Intn(4)), walked(g, bv.Usual()), p, rounds, rnd.Uint64())
		want := anyBalls(rnd, n, p, rounds)
		if e := r.Load(want.text()); e != 0 {
			t.Fatal(e)
		}
		for !want.done {
			want = want.grown(g, rounds)
			done, e := r.Step()
			text, f := r.Save()
			if done != want.done || e != 0 || f != 0 || text != want.text() || r.Steps() != want.made {
				t.Fatalf("step %d of %d rounds: %v, %v; %x", want.made, rounds, done, e, text)
			}
		}
		if want.made > rounds+1 {
			behind++
		}
		if l := values(t, r); !slices.Equal(l, want.sums) {
			t.Fatal(l)
		}
	}
	if behind == 0 {
		t.Fatal("no run went on behind its rounds")
	}
}
