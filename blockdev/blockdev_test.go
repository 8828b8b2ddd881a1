package blockdev

import (
	"math/rand"
	"slices"
	"strings"
	"testing"

	"wattle/api"
)

func made(t *testing.T, blocks, sectors int) *Device {
	t.Helper()
	d, e := New(Geometry{blocks, sectors})
	if e != api.OK {
		t.Fatal(e)
	}
	return d
}

func filled(d *Device, c string) string { return strings.Repeat(c, d.Size()) }

// P4.1: geometries.
func TestGeometry(t *testing.T) {
	for _, x := range []struct {
		g    Geometry
		want api.Errno
	}{{Geometry{16, 1}, 0}, {Geometry{15, 1}, api.ErrArg}, {Geometry{4096, 8}, 0}, {Geometry{4097, 8}, api.ErrArg}, {Geometry{16, 0}, api.ErrArg}, {Geometry{16, 9}, api.ErrArg}, {Geometry{-1, -1}, api.ErrArg}} {
		d, e := New(x.g)
		if x.g.Check() != x.want || e != x.want || (d == nil) != (e != api.OK) {
			t.Errorf("%v: %v", x.g, e)
		}
		if d != nil && (d.Blocks() != x.g.Blocks || d.Size() != 512*x.g.Sectors) {
			t.Errorf("%v: %d, %d", x.g, d.Blocks(), d.Size())
		}
	}
}

// P4.1, P4.2, P4.3: the chapter's examples.
func TestExamples(t *testing.T) {
	d := made(t, 16, 2)
	a, b := filled(d, "a"), filled(d, "b")
	if d.Write(3, a) != 0 || d.Write(16, a) != api.ErrArg || d.Write(-1, a) != api.ErrArg || d.Write(3, "a") != api.ErrArg || d.Unflushed() != 1 || d.Calls() != 1 {
		t.Error("writes")
	}
	if s, e := d.Read(3); s != a || e != 0 {
		t.Error("what was written")
	}
	if _, e := d.Read(16); e != api.ErrArg || d.Reads() != 1 {
		t.Error("no such block")
	}
	if d.Pull(Crash{nil, 0, 2}) != 0 || d.Write(3, a) != api.ErrDown || d.Write(99, "") != api.ErrDown || d.Flush() != api.ErrDown || d.Plan(-1, Crash{}) != api.ErrDown || d.Pull(Crash{}) != api.ErrDown || !d.Down() || d.Unflushed() != 0 {
		t.Error("down")
	}
	if s, e := d.Read(3); s != "" || e != api.ErrDown {
		t.Error("read while it is down")
	}
	torn := strings.Repeat("\x00", 512) + strings.Repeat("a", 512)
	if d.Image()[3] != torn {
		t.Error("the image while it is down")
	}
	if d.Restart() != 0 || d.Restart() != api.ErrDone || d.Down() || d.Calls() != 1 {
		t.Error("up again")
	}
	if s, _ := d.Read(3); s != torn {
		t.Error("torn")
	}
	d.Write(3, a)
	d.Flush()
	d.Write(3, b)
	d.Write(4, b)
	if d.Unflushed() != 2 || d.Pull(Crash{[]int{1, 7, -2}, -1, 0}) != 0 || d.Restart() != 0 {
		t.Error("pulled")
	}
	if img := d.Image(); img[3] != a || img[4] != b {
		t.Error("what is kept")
	}
	if d.Plan(-1, Crash{}) != api.ErrArg || d.Plan(2, Crash{[]int{0}, -1, 0}) != 0 || d.Write(5, a) != 0 || d.Write(6, a) != api.ErrDown || d.Restart() != 0 {
		t.Error("planned")
	}
	if img := d.Image(); img[5] != a || img[6] != filled(d, "\x00") {
		t.Error("what was kept of a planned one")
	}
	if d.Write(5, b) != 0 || d.Flush() != 0 {
		t.Error("nothing is planned behind it")
	}
}

// P4.2: what is planned: at a flush, forgotten, by a list that the caller changes.
func TestPlan(t *testing.T) {
	d := made(t, 16, 1)
	a := filled(d, "a")
	keep := []int{0}
	d.Plan(1, Crash{})
	d.Plan(0, Crash{})
	if d.Write(0, a) != 0 {
		t.Error("a plan that was forgotten")
	}
	d.Plan(3, Crash{keep, -1, 0})
	keep[0] = 5
	if d.Write(16, a) != api.ErrArg || d.Write(1, a) != 0 || d.Write(2, a) != 0 || d.Flush() != api.ErrDown || d.Calls() != 4 {
		t.Error("down at a flush")
	}
	if img := d.Image(); img[0] != a || img[1] == a || img[2] == a {
		t.Error("what was kept")
	}
	d.Restart()
	d.Write(7, a)
	d.Pull(Crash{[]int{0}, 0, 0})
	if d.Image()[7] == a {
		t.Error("torn with no sector, though it is kept")
	}
}

// P4.3: Corrupt.
func TestCorrupt(t *testing.T) {
	d := made(t, 16, 1)
	a, b := filled(d, "a"), filled(d, "b")
	d.Write(1, a)
	d.Flush()
	d.Write(1, b)
	d.Write(2, b)
	calls := d.Calls()
	for _, x := range []struct {
		n, at int
		s     string
		want  api.Errno
	}{{16, 0, "", api.ErrArg}, {-1, 0, "", api.ErrArg}, {1, -1, "", api.ErrArg}, {1, 511, "xy", api.ErrArg}, {1, 513, "", api.ErrArg}, {1, 512, "", 0}, {1, 1 << 62, "x", api.ErrArg}, {1, 510, "xy", 0}} {
		if e := d.Corrupt(x.n, x.at, x.s); e != x.want {
			t.Errorf("%v: %v", x, e)
		}
	}
	if d.Calls() != calls || d.Image()[1] != b[:510]+"xy" || d.Image()[2] != b {
		t.Error("in the cache")
	}
	u := d.Twin()
	d.Pull(Crash{nil, -1, 0})
	if d.Image()[1] != a[:510]+"xy" || d.Corrupt(1, 0, "z") != 0 || d.Image()[1][0] != 'z' {
		t.Error("what is safe")
	}
	u.Pull(Crash{[]int{0}, -1, 0})
	if u.Image()[1] != b[:510]+"xy" {
		t.Error("what is not flushed")
	}
}

// R1: nil devices, and such as were made otherwise.
func TestNil(t *testing.T) {
	var d *Device
	_, e := d.Read(0)
	if e != api.ErrNil || d.Write(0, "") != api.ErrNil || d.Flush() != api.ErrNil || d.Plan(0, Crash{}) != api.ErrNil || d.Pull(Crash{}) != api.ErrNil || d.Restart() != api.ErrNil || d.Corrupt(0, 0, "") != api.ErrNil {
		t.Error("errors")
	}
	if d.Blocks() != 0 || d.Size() != 0 || !d.Down() || d.Calls() != 0 || d.Reads() != 0 || d.Unflushed() != 0 || d.Restarts() != 0 || d.Image() != nil || d.Twin() != nil {
		t.Error("noughts")
	}
	z := &Device{}
	if z.Write(0, "") != api.ErrArg || z.Flush() != 0 || z.Pull(Crash{}) != 0 || z.Restart() != 0 {
		t.Error("made otherwise")
	}
}

// P4.5, P4.6: behind any crash each sector is one that was there; what was flushed and not written since is safe.
func TestCrashes(t *testing.T) {
	rnd := rand.New(rand.NewSource(1))
	for range 300 {
		d := made(t, 16, 1+rnd.Intn(8))
		safe := d.Image()
		written := map[int][]string{}
		for range rnd.Intn(20) {
			if rnd.Intn(6) == 0 {
				d.Flush()
				safe = d.Image()
				written = map[int][]string{}
				continue
			}
			n, s := rnd.Intn(16), filled(d, string(rune('a'+rnd.Intn(26))))
			d.Write(n, s)
			written[n] = append(written[n], s)
		}
		full := d.Image()
		var all []int
		for i := range d.Unflushed() {
			all = append(all, i)
		}
		u := d.Twin()
		u.Pull(Crash{all, -1, 255})
		if !slices.Equal(u.Image(), full) {
			t.Fatal("all kept, and not all is there")
		}
		c := Crash{nil, rnd.Intn(10) - 1, uint8(rnd.Intn(256))}
		for _, i := range all {
			if rnd.Intn(2) == 0 {
				c.Keep = append(c.Keep, i)
			}
		}
		d.Pull(c)
		mixed := 0
		for n, s := range d.Image() {
			if len(written[n]) == 0 && s != safe[n] {
				t.Fatalf("the block %d was safe", n)
			}
			for at := 0; at < d.Size(); at += 512 {
				ok := s[at:at+512] == safe[n][at:at+512]
				for _, w := range written[n] {
					ok = ok || s[at:at+512] == w[at:at+512]
				}
				if !ok {
					t.Fatalf("the block %d has what was never there", n)
				}
			}
			if strings.Count(s, s[:1]) != len(s) {
				mixed++
			}
		}
		if mixed > 1 {
			t.Fatalf("%d blocks are torn", mixed)
		}
	}
}

// P4.7: a twin answers alike, and sees nothing of the other one.
func TestTwin(t *testing.T) {
	rnd := rand.New(rand.NewSource(2))
	for range 100 {
		d := made(t, 16, 2)
		for range rnd.Intn(5) {
			d.Write(rnd.Intn(16), filled(d, "x"))
		}
		d.Plan(rnd.Intn(8), Crash{[]int{0, 2, 3}, 1, 1})
		u := d.Twin()
		before := u.Image()
		seed := rnd.Int63()
		play := func(d *Device) (l []any) {
			r := rand.New(rand.NewSource(seed))
			for range 10 {
				l = append(l, d.Write(r.Intn(16), filled(d, string(rune('a'+r.Intn(26))))), d.Calls(), d.Unflushed(), d.Down())
				if r.Intn(4) == 0 {
					l = append(l, d.Flush(), d.Restart())
				}
				s, e := d.Read(r.Intn(16))
				l = append(l, s, e, d.Reads())
			}
			return l
		}
		x := play(d)
		if !slices.Equal(u.Image(), before) {
			t.Fatal("the twin sees it")
		}
		if y := play(u); !slices.Equal(x, y) || !slices.Equal(d.Image(), u.Image()) {
			t.Fatal("the twin answers otherwise")
		}
	}
}

// R3: what is handed out is the caller's own.
func TestImage(t *testing.T) {
	d := made(t, 16, 1)
	img := d.Image()
	img[0] = "x"
	if d.Image()[0] == "x" {
		t.Error("the image is the device's own")
	}
}
