package console

import (
	"math/rand"
	"slices"
	"strconv"
	"strings"
	"testing"

	"wattle/api"
	"wattle/blockdev"
	"wattle/engine"
	"wattle/jobs"
)

func plays1(t *testing.T, c *Console, line string, want ...string) {
	t.Helper()
	if got := c.Line(line); !slices.Equal(got, want) {
		t.Errorf("%.80q: %q, want %q", line, got, want)
	}
}

// P32.1: the chapter's examples.
func TestExamples(t *testing.T) {
	c := Make()
	for _, x := range [][]string{
		{"check", "error 2"}, {"format 100 1 24", "ok"}, {"check", "error 2"}, {"mount 8 2 4096", "ok"},
		{"import g 3 0%201%0a1%202", "ok 3 2"}, {"import g 3 -", "error 7"}, {"import h 3 0%203", "error 15 1"},
		{"list", "ok 1", "graph g 3 2"}, {"next g 0", "ok 1"}, {"next g 3", "error 1"}, {"next g 2", "ok"},
		{"submit 1 g far 0 0 0 0", "ok 1"}, {"run 1 0", "ok 1 0 0"}, {"run 1 2", "ok 1 2 0"}, {"run 1 9", "ok 2 3 0"}, {"status 1", "ok 2 3 0 1 g far 0 0 0 0"}, {"fetch far 0 3", "ok 0 1 2"}, {"run 1 9", "error 16"}, {"run 1 -1", "ok 2 3 0"}, {"run 9 0", "error 6"},
		{"pull -1 0", "ok"}, {"check", "error 8"}, {"restart", "ok"}, {"restart", "error 5"}, {"mount 8 2 4096", "ok"}, {"list", "ok 2", "graph g 3 2", "result far 3"},
		{"submit 6 g b - 4 2 -1", "error 4"}, {"submit 6 g b -3 4 2 -1", "ok 2"}, {"status 2", "ok 1 0 0 6 g b -3 4 2 18446744073709551615"}, {"submit -1 g c 0 0 0 0", "error 11"}, {"submit 257 g c 0 0 0 0", "error 11"},
		{"step 2", "ok 1 1 0"}, {"jobs", "ok 1 2"}, {"cancel 2", "ok"}, {"cancel 2", "error 16"}, {"forget 2", "ok"}, {"forget 1", "ok"}, {"jobs", "ok"},
		{"delete g 0", "ok"}, {"delete far 1", "ok"}, {"list", "ok 0"}, {"mount 3 1 1", "error 1"}, {"jump", "error 4"}, {"list", "error 2"},
	} {
		plays1(t, c, x[0], x[1:]...)
	}
}

// P32.1: no device, no engine; lines that are none of the table.
func TestNone(t *testing.T) {
	c := Make()
	for _, x := range [][2]string{
		{"mount 8 2 4096", "error 2"}, {"import - 0 -", "error 2"}, {"delete g 0", "error 2"}, {"list", "error 2"}, {"next g 0", "error 2"}, {"submit 1 g r 0 0 0 0", "error 2"}, {"step 1", "error 2"}, {"run 1 5", "error 2"}, {"run 1 0", "error 2"},
		{"cancel 1", "error 2"}, {"forget 1", "error 2"}, {"status 1", "error 2"}, {"jobs", "error 2"}, {"fetch r 0 0", "error 2"}, {"check", "error 2"}, {"stats", "ok 0 0 0 0 0 0 0"}, {"plan 1 0 0", "error 2"}, {"pull 0 0", "error 2"}, {"restart", "error 2"}, {"device", "ok 0 0 0 1"},
		{"format 15 1 24", "error 1"}, {"device", "ok 0 0 0 1"}, {"format 16 1 24", "error 1"}, {"device", "ok 0 0 0 0"},
	} {
		plays1(t, c, x[0], x[1])
	}
	for _, s := range []string{
		" check", "check ", "Check", "check 1", "list  ", "step", "step 1 2", "step x", "step 01", "step -0", "step -", "step +1", "step 1000000000000000", "step 1.0", "step --1", "step 1-", "next g", "next  0", "next %2 0", "next %2G 0", "next %2A 0", "next %zz 0", "next % 0",
		"format 1 2", "mount 1 2", "import g 3", "import g 3 a b", "delete g", "submit 1 g r 0 0 0", "submit 1 g r 0 0 0 0 0", "run 1", "fetch r 0", "plan 1 2", "plan", "pull 1", "pull 1 2 x", "plan 1 2 3 4 x", "-", "%20", strings.Repeat("a", MaxLine), strings.Repeat("#", MaxLine+1), "check\n",
	} {
		plays1(t, c, s, "error 4")
	}
	for _, s := range []string{"", "#", "# check", strings.Repeat("#", MaxLine)} {
		plays1(t, c, s)
	}
	var none *Console
	for _, s := range []string{"", "# x"} {
		plays1(t, none, s)
	}
	for _, s := range []string{"check", "x", " ", strings.Repeat("#", MaxLine+1)} {
		plays1(t, none, s, "error 2")
	}
	plays1(t, &Console{}, "check", "error 2")
	plays1(t, c, "step 999999999999999", "error 2")
	plays1(t, c, "step -999999999999999", "error 2")
}

// P32.1: a device that was there stays, where the new one is refused; an engine goes with either.
func TestDevice(t *testing.T) {
	c := Make()
	for _, x := range [][]string{
		{"format 100 1 24", "ok"}, {"mount 8 2 4096", "ok"}, {"format 5 1 24", "error 1"}, {"check", "ok"}, {"format 100 1 5", "error 1"}, {"check", "error 2"}, {"mount 8 2 4096", "error 4"},
		{"format 100 2 24", "ok"}, {"device", "ok 34 0 0 0"}, {"mount 8 2 4096", "ok"}, {"plan 1 0 259 0 1", "ok"}, {"import g 1 -", "error 8"}, {"device", "ok 35 "}, {"plan 1 0 0", "error 8"}, {"restart", "ok"}, {"list", "error 8"}, {"mount 4 1 1", "ok"}, {"import g 1 -", "error 13"}, {"stats", "ok 4 0 0 0 0 0 0"}, {"plan -1 0 0", "error 1"},
	} {
		if x[0] == "device" && x[1] == "ok 35 " { // how many blocks a mount reads is not told
			if l := c.Line("device"); !strings.HasPrefix(l[0], x[1]) || !strings.HasSuffix(l[0], " 0 1") {
				t.Error(l)
			}
			continue
		}
		plays1(t, c, x[0], x[1:]...)
	}
}

// P32.2: texts of lines.
func TestRun(t *testing.T) {
	for _, x := range []struct {
		text string
		want []string
		e    api.Errno
	}{
		{"", nil, 0}, {"\n", nil, 0}, {"check", []string{"error 2"}, 0}, {"check\n\n# x\njump\n", []string{"error 2", "error 4"}, 0}, {"format 100 1 24\nmount 8 1 4096\nimport g 2 0%201\nlist", []string{"ok", "ok", "ok 2 1", "ok 1", "graph g 2 1"}, 0},
		{strings.Repeat("\n", MaxLines), nil, 0}, {strings.Repeat("\n", MaxLines+1), nil, api.ErrArg}, {strings.Repeat("\n", MaxLines) + "check", nil, api.ErrArg}, {"check\r\n", []string{"error 4"}, 0},
	} {
		if l, e := Run(x.text); !slices.Equal(l, x.want) || e != x.e {
			t.Errorf("%.40q: %q, %v", x.text, l, e)
		}
	}
}

// P32.4: texts of any bytes are written as words, and read as they were.
func TestWords(t *testing.T) {
	for s, want := range map[string]string{"": "-", "-": "%2d", "--": "--", "a b": "a%20b", "%": "%25", "\x00\x7f\xff~!": "%00%7f%ff~!", "\n": "%0a"} {
		if shown(s) != want {
			t.Errorf("%q: %s", s, shown(s))
		}
	}
	rnd := rand.New(rand.NewSource(1))
	for range 2000 {
		b := make([]byte, rnd.Intn(20))
		rnd.Read(b)
		w := words{l: []string{shown(string(b))}}
		if got := w.text(); got != string(b) || !w.whole() {
			t.Fatalf("%q: %q", b, got)
		}
	}
	w := words{l: []string{"a\x01\xff%2d-%"}}
	if w.text() != "" || w.whole() {
		t.Error("a word that is none")
	}
	w = words{l: []string{"a\x01\xff%2d-"}}
	if w.text() != "a\x01\xff--" || !w.whole() {
		t.Error("bytes that stand for themselves")
	}
}

// P32.3, P32.4: as the calls, with lines put in that say nothing, or are none.
func TestAsCalls(t *testing.T) {
	rnd := rand.New(rand.NewSource(2))
	num := func(e api.Errno, l ...int) string {
		if e != api.OK {
			return "error " + strconv.Itoa(int(e))
		}
		s := "ok"
		for _, v := range l {
			s += " " + strconv.Itoa(v)
		}
		return s
	}
	for range 20 {
		c := Make()
		c.Line("format 300 1 24")
		c.Line("mount 8 3 4096")
		d, _ := blockdev.New(blockdev.Geometry{Blocks: 300, Sectors: 1})
		engine.Format(d, engine.Config{Log: 24})
		o := engine.Options{Frames: 8, Every: 3, Budget: 4096}
		g, _ := engine.Mount(d, o)
		for range 150 {
			name := []string{"a", "b b", "%"}[rnd.Intn(3)]
			id, n := 1+rnd.Intn(6), rnd.Intn(8)
			line, want := "", ""
			switch rnd.Intn(9) {
			case 0:
				text := "0 " + strconv.Itoa(n) + "\n1 1\n"
				line = "import " + shown(name) + " 6 " + shown(text)
				x, e := g.Import(name, 6, text)
				want = num(e, x.N, x.M)
				if e == api.ErrEdge {
					want += " " + strconv.Itoa(x.Line)
				}
			case 1:
				line = "next " + shown(name) + " " + strconv.Itoa(n)
				l, e := g.Successors(name, n)
				var all []int
				for _, v := range l {
					all = append(all, int(v))
				}
				want = num(e, all...)
			case 2:
				line = "submit " + strconv.Itoa(n) + " " + shown(name) + " r" + strconv.Itoa(id) + " 0 4 3 5"
				id, e := g.Submit(jobs.Spec{Kind: uint8(n), Graph: name, Result: "r" + strconv.Itoa(id), P: 4, Rounds: 3, Seed: 5})
				want = num(e, id)
			case 3:
				line = "delete " + shown(name) + " 0"
				want = num(g.Delete(name, false))
			case 4:
				line = "device"
				want = num(0, d.Calls(), d.Reads(), d.Unflushed(), 0)
				if d.Down() {
					want = want[:len(want)-1] + "1"
				}
			case 5:
				line = "stats"
				s := g.Stats()
				want = num(0, s.Frames, s.Hits, s.Misses, s.Written, s.Held, s.Pinned, s.Most)
			case 6:
				if rnd.Intn(4) > 0 {
					continue
				}
				line, want = "plan 30 2 1 0 3", num(d.Plan(30, blockdev.Crash{Keep: []int{0, 3}, Torn: 2, Mask: 1}))
			default:
				line = "step " + strconv.Itoa(id)
				x, e := g.Step(id)
				want = num(e, int(x.State), x.Steps, int(x.Code))
			}
			plays1(t, c, []string{"", "# x"}[rnd.Intn(2)])
			plays1(t, c, []string{"jump", "step", "list 1", "mount 0"}[rnd.Intn(4)], "error 4")
			plays1(t, c, line, want)
			if d.Down() {
				plays1(t, c, "restart", num(d.Restart()))
				var e api.Errno
				g, e = engine.Mount(d, o)
				plays1(t, c, "mount 8 3 4096", num(e))
			}
		}
	}
}
