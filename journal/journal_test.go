package journal

import (
	"math/rand"
	"slices"
	"strings"
	"testing"

	"wattle/api"
	"wattle/blockdev"
	"wattle/num"
	"wattle/sums"
)

func device(t *testing.T, blocks, sectors int) *blockdev.Device {
	t.Helper()
	d, e := blockdev.New(blockdev.Geometry{Blocks: blocks, Sectors: sectors})
	if e != api.OK {
		t.Fatal(e)
	}
	return d
}

func fill(d *blockdev.Device, s string) string {
	return strings.Repeat(s, d.Size()/len(s)+1)[:d.Size()]
}

func opened(t *testing.T, d *blockdev.Device, start, length int) *Journal {
	t.Helper()
	if e := Format(d, start, length); e != api.OK {
		t.Fatal(e)
	}
	j, n, e := Open(d, start, length)
	if e != api.OK || n != 0 {
		t.Fatal(n, e)
	}
	return j
}

// P5.3, P5.4: the chapter's examples.
func TestExamples(t *testing.T) {
	d := device(t, 16, 1)
	j := opened(t, d, 2, 6)
	a, b := fill(d, "a"), fill(d, "b")
	if j.Most() != 2 || j.Used() != 0 || j.Number() != 1 {
		t.Errorf("new: %d, %d, %d", j.Most(), j.Used(), j.Number())
	}
	if j.Commit([]Write{{8, a}, {9, b}}) != 0 || j.Used() != 4 || j.Number() != 2 {
		t.Error("two blocks")
	}
	if j.Commit([]Write{{10, a}}) != 0 || j.Used() != 3 || j.Number() != 3 {
		t.Error("behind a checkpoint")
	}
	calls := d.Calls()
	for _, x := range []struct {
		l    []Write
		want api.Errno
	}{
		{[]Write{{8, a}, {9, a}, {10, a}}, api.ErrLog}, {[]Write{{3, a}}, api.ErrArg}, {[]Write{{7, a}}, api.ErrArg}, {[]Write{{8, a}, {8, a}}, api.ErrArg},
		{[]Write{{16, a}}, api.ErrArg}, {[]Write{{-1, a}}, api.ErrArg}, {[]Write{{8, "a"}}, api.ErrArg}, {[]Write{{8, a}, {9, a}, {10, a}, {2, a}}, api.ErrArg}, {nil, 0},
	} {
		if e := j.Commit(x.l); e != x.want || j.Used() != 3 || j.Number() != 3 || d.Calls() != calls {
			t.Errorf("%d blocks: %v", len(x.l), e)
		}
	}
	d.Plan(5, blockdev.Crash{Torn: -1}) // a checkpoint has two flushes and a write, the transaction two writes ahead of its first
	if e := j.Commit([]Write{{8, b}}); e != api.ErrDown {
		t.Errorf("down: %v", e)
	}
	if j.Commit(nil) != api.ErrState || j.Checkpoint() != api.ErrState {
		t.Error("behind a crash")
	}
	d.Restart()
	if _, n, e := Open(d, 2, 6); e != api.OK || n != 0 {
		t.Errorf("behind the checkpoint: %d, %v", n, e)
	}
	if s, _ := d.Read(8); s != a {
		t.Error("the block 8")
	}
}

// P5.2: the last example of the chapter: what was answered is done again.
func TestAgain(t *testing.T) {
	d := device(t, 16, 1)
	j := opened(t, d, 2, 9)
	a, b := fill(d, "a"), fill(d, "b")
	j.Commit([]Write{{11, a}})
	d.Plan(4, blockdev.Crash{Torn: -1})
	if e := j.Commit([]Write{{11, b}}); e != api.ErrDown {
		t.Error(e)
	}
	d.Restart()
	if s, _ := d.Read(11); s != fill(d, "\x00")[:512] && s != a {
		t.Error("what the crash left")
	}
	j, n, e := Open(d, 2, 9)
	if e != api.OK || n != 1 || j.Number() != 2 || j.Used() != 0 {
		t.Errorf("%d, %v", n, e)
	}
	if s, _ := d.Read(11); s != a {
		t.Error("not done again")
	}
	if _, n, e := Open(d, 2, 9); n != 0 || e != api.OK {
		t.Error("once more")
	}
}

// P5.1, P5.3, P5.4: which calls the device sees, in which order.
func TestCalls(t *testing.T) {
	d := device(t, 16, 2)
	Format(d, 1, 7)
	if d.Calls() != 7+1+1+1 || d.Unflushed() != 0 {
		t.Errorf("format: %d calls", d.Calls())
	}
	img := d.Image()
	head := "WJH1" + num.Text(1, 8) + num.Text(0, 4) + num.Text(1, 8)
	head += num.Text(uint64(sums.Crc(head)), 4)
	if !strings.HasPrefix(img[1], head) || !num.Blank(img[1][28:]) || !num.Blank(img[2]) {
		t.Error("the first head")
	}
	j, _, _ := Open(d, 1, 7)
	if d.Calls() != 10 {
		t.Error("nothing is written where nothing is done again")
	}
	x := "WJ" + strings.Repeat("x", 1022)
	if j.Commit([]Write{{9, x}, {8, fill(d, "y")}}) != 0 || d.Calls() != 10+3+1+1+1+2 || d.Unflushed() != 2 {
		t.Error("commit")
	}
	img = d.Image()
	desc := "WJD1" + num.Text(1, 8) + num.Text(2, 4) + num.Text(1<<31|9, 4) + num.Text(8, 4)
	desc += num.Text(uint64(sums.Crc(desc)), 4)
	if !strings.HasPrefix(img[3], desc) || !num.Blank(img[3][len(desc):]) || img[4] != "\x00\x00"+x[2:] || img[5] != fill(d, "y") {
		t.Error("the ring")
	}
	rec := "WJC1" + num.Text(1, 8) + num.Text(uint64(sums.Crc(img[3]+img[4]+img[5])), 4)
	if !strings.HasPrefix(img[6], rec) || !num.Blank(img[6][16:]) || img[9] != x {
		t.Error("the record, and the block")
	}
	if j.Checkpoint() != 0 || d.Calls() != 21 || j.Used() != 0 || d.Unflushed() != 0 {
		t.Error("checkpoint")
	}
	head = "WJH1" + num.Text(2, 8) + num.Text(4, 4) + num.Text(2, 8)
	if !strings.HasPrefix(d.Image()[2], head+num.Text(uint64(sums.Crc(head)), 4)) {
		t.Error("the other head")
	}
	if j.Checkpoint() != 0 || d.Calls() != 21 {
		t.Error("a checkpoint of nothing")
	}
}

// P5.1, P5.2: regions that may not be, devices that are down, no head.
func TestRefused(t *testing.T) {
	d := device(t, 16, 1)
	for _, x := range [][2]int{{-1, 6}, {0, 5}, {11, 6}, {0, 17}, {1 << 62, 6}, {0, 1 << 62}} {
		if Format(d, x[0], x[1]) != api.ErrArg {
			t.Errorf("format %v", x)
		}
		if j, _, e := Open(d, x[0], x[1]); j != nil || e != api.ErrArg {
			t.Errorf("open %v", x)
		}
	}
	if j, _, e := Open(d, 0, 6); j != nil || e != api.ErrCorrupt {
		t.Errorf("no head: %v", e)
	}
	if Format(nil, 0, 6) != api.ErrNil {
		t.Error("no device")
	}
	if _, _, e := Open(nil, 0, 6); e != api.ErrNil {
		t.Error("no device")
	}
	Format(d, 10, 6)
	j, _, _ := Open(d, 10, 6)
	d.Corrupt(10, 5, "x")
	if _, _, e := Open(d, 10, 6); e != api.ErrCorrupt {
		t.Errorf("a head that was overwritten: %v", e)
	}
	d.Pull(blockdev.Crash{})
	if Format(d, 99, 0) != api.ErrDown {
		t.Error("format of a device that is down")
	}
	if _, _, e := Open(d, 99, 0); e != api.ErrDown {
		t.Error("open of a device that is down")
	}
	if j.Commit([]Write{{99, ""}}) != api.ErrArg || j.Commit(nil) != api.ErrDown || j.Commit(nil) != api.ErrState {
		t.Error("commit on a device that is down")
	}
	var none *Journal
	if none.Commit(nil) != api.ErrNil || none.Checkpoint() != api.ErrNil || none.Most()+none.Used()+int(none.Number()) != 0 || (&Journal{}).Commit(nil) != api.ErrNil {
		t.Error("a nil journal")
	}
}

// P5.2: a record whose first sector is another one is told; other sectors of it do not matter.
func TestRecord(t *testing.T) {
	for _, x := range []struct {
		block, at int
		want      api.Errno
		again     int
	}{{7, 13, api.ErrCorrupt, 0}, {7, 511, api.ErrCorrupt, 0}, {7, 512, 0, 2}, {7, 0, 0, 1}, {7, 11, 0, 1}, {6, 700, api.ErrCorrupt, 0}, {5, 1000, 0, 1}, {6, 0, api.ErrCorrupt, 0}} {
		d := device(t, 20, 2)
		j := opened(t, d, 0, 12)
		j.Commit([]Write{{13, fill(d, "a")}})
		j.Commit([]Write{{13, fill(d, "b")}})
		d.Corrupt(x.block, x.at, "\x07")
		d.Corrupt(13, 0, "zz")
		_, n, e := Open(d, 0, 12)
		if e != x.want || n != x.again {
			t.Errorf("%v: %d, %v", x, n, e)
		}
		if s, _ := d.Read(13); s[:1] != map[int]string{0: "a", 1: "a", 2: "b"}[n] {
			t.Errorf("%v: what was done again ahead of it", x)
		}
	}
}

// some is data of some looks: plain ones, and such as look like the journal's own.
func some(rnd *rand.Rand, d *blockdev.Device) string {
	switch rnd.Intn(4) {
	case 0:
		return "WJ" + fill(d, string(rune('a'+rnd.Intn(26))))[2:]
	case 1:
		img := d.Image()
		return img[1+rnd.Intn(9)]
	}
	return fill(d, string(rune('a'+rnd.Intn(26))))
}

func transaction(rnd *rand.Rand, d *blockdev.Device, most int) []Write {
	var l []Write
	for _, n := range rnd.Perm(10)[:1+rnd.Intn(most)] {
		l = append(l, Write{10 + n, some(rnd, d)})
	}
	return l
}

func crash(rnd *rand.Rand) blockdev.Crash {
	c := blockdev.Crash{Torn: rnd.Intn(14) - 1, Mask: uint8(rnd.Intn(256))}
	for i := range 14 {
		if rnd.Intn(2) == 0 {
			c.Keep = append(c.Keep, i)
		}
	}
	return c
}

// outside is what stands outside the region 1 to 9.
func outside(d *blockdev.Device) []string {
	img := d.Image()
	return append(img[:1:1], img[10:]...)
}

// P5.5, P5.6, P5.7: at whatever call the device goes down, all blocks of the transaction under way are there, or none; and so behind crashes within Open.
func TestCrashes(t *testing.T) {
	rnd := rand.New(rand.NewSource(1))
	for range 1500 {
		d := device(t, 20, 1+rnd.Intn(3))
		j := opened(t, d, 1, 6+rnd.Intn(4))
		before := outside(d)
		d.Plan(1+rnd.Intn(40), crash(rnd))
		var after []string
		for !d.Down() {
			l := transaction(rnd, d, min(j.Most(), 4))
			after = slices.Clone(before)
			for _, w := range l {
				after[w.Block-9] = w.Data
			}
			if rnd.Intn(6) == 0 {
				after = before
				j.Checkpoint()
			} else if j.Commit(l) == api.OK {
				before = after
			}
		}
		for range rnd.Intn(4) {
			d.Restart()
			d.Plan(1+rnd.Intn(12), crash(rnd))
			Open(d, 1, j.length)
			if !d.Down() {
				d.Pull(crash(rnd))
			}
		}
		d.Restart()
		k, _, e := Open(d, 1, j.length)
		if e != api.OK {
			t.Fatal(e)
		}
		if got := outside(d); !slices.Equal(got, before) && !slices.Equal(got, after) {
			t.Fatal("neither all nor none")
		}
		if _, n, e := Open(d, 1, j.length); n != 0 || e != api.OK || k.Used() != 0 {
			t.Fatal("done again once more")
		}
	}
}

// P5.7: a region that is formatted anew tells nothing of what was there.
func TestAnew(t *testing.T) {
	d := device(t, 16, 1)
	j := opened(t, d, 2, 9)
	j.Commit([]Write{{12, fill(d, "a")}})
	opened(t, d, 2, 9)
	if _, n, e := Open(d, 2, 9); n != 0 || e != api.OK {
		t.Error(n, e)
	}
}

// P5.3, P5.4: a transaction that just fits needs no checkpoint; a descriptor has room for so many blocks.
func TestFits(t *testing.T) {
	d := device(t, 200, 1)
	j := opened(t, d, 3, 8)
	for i, used := range []int{3, 6, 3} {
		if j.Commit([]Write{{11, fill(d, "a")}}) != 0 || j.Used() != used || j.Number() != uint64(i+2) {
			t.Errorf("commit %d: %d used", i, j.Used())
		}
	}
	if _, n, e := Open(d, 3, 8); n != 1 || e != 0 {
		t.Error(n, e)
	}
	j = opened(t, d, 3, 8)
	j.Commit([]Write{{11, fill(d, "a")}})
	j.Commit([]Write{{11, fill(d, "b")}})
	if _, n, e := Open(d, 3, 8); n != 2 || e != 0 {
		t.Error("a ring that is full", n, e)
	}
	if j = opened(t, d, 0, 126); j.Most() != 122 {
		t.Error(j.Most())
	}
	j = opened(t, d, 0, 130)
	var l []Write
	for i := range 70 {
		l = append(l, Write{130 + i, fill(d, "WJx")})
	}
	if j.Most() != 123 || j.Commit(l) != 0 || j.Commit(l) != 0 {
		t.Error("many blocks")
	}
	for i := range 70 {
		d.Corrupt(130+i, 0, "gone")
	}
	if _, n, e := Open(d, 0, 130); n != 1 || e != 0 {
		t.Error(n, e)
	}
	for i, text := range d.Image()[130:] {
		if text != fill(d, "WJx") {
			t.Error("block", i)
		}
	}
}

// P5.2: what is no transaction: a descriptor that is not so, to its last byte; blocks that none may write.
func TestNoTransaction(t *testing.T) {
	for i, x := range []struct {
		at   int
		text string
	}{{0, "WJX1"}, {4, "\x01"}, {11, "\x02"}, {15, "\x00"}, {15, "\x02"}, {12, "\xff"}, {16, "\x80"}, {19, "\x01"}, {20, "\x77"}, {24, "\x01"}, {511, "\x01"}} {
		d := device(t, 20, 1)
		j := opened(t, d, 0, 8)
		j.Commit([]Write{{13, fill(d, "a")}})
		d.Corrupt(2, x.at, x.text)
		if _, n, e := Open(d, 0, 8); n != 0 || e != 0 {
			t.Errorf("descriptor %d: %d, %v", i, n, e)
		}
	}
	for i, blocks := range [][]int{{13, 13}, {7, 13}, {20, 13}, {1 << 30, 13}, {13, 14}} {
		d := device(t, 20, 1)
		j := opened(t, d, 0, 8)
		j.Commit([]Write{{13, fill(d, "a")}, {14, fill(d, "b")}})
		s := "WJD1" + num.Text(1, 8) + num.Text(2, 4) + num.Text(uint64(blocks[0]), 4) + num.Text(uint64(blocks[1]), 4)
		s += num.Text(uint64(sums.Crc(s)), 4)
		d.Corrupt(2, 0, s)
		img := d.Image()
		d.Corrupt(5, 12, num.Text(uint64(sums.Crc(img[2]+img[3]+img[4])), 4))
		want := 0
		if i == 4 {
			want = 1
		}
		if _, n, e := Open(d, 0, 8); n != want || e != 0 {
			t.Errorf("blocks %v: %d, %v", blocks, n, e)
		}
	}
}

// P5.2: the head is the one with the greater own number, whose tail is in the ring.
func TestHeads(t *testing.T) {
	head := func(own, tail, number uint64) string {
		s := "WJH1" + num.Text(own, 8) + num.Text(tail, 4) + num.Text(number, 8)
		return s + num.Text(uint64(sums.Crc(s)), 4)
	}
	for i, x := range []struct {
		a, b string
		want uint64
	}{{head(1, 0, 5), head(2, 0, 9), 9}, {head(3, 0, 5), head(2, 0, 9), 5}, {head(1, 5, 5), head(2, 6, 9), 5}, {head(1, 6, 5), head(2, 6, 9), 0}, {head(1, 0, 5), "WJH2" + head(2, 0, 9)[4:], 5}, {head(2, 0, 5), head(2, 0, 9), 5}} {
		d := device(t, 20, 1)
		Format(d, 0, 8)
		d.Corrupt(0, 0, x.a)
		d.Corrupt(1, 0, x.b)
		j, _, e := Open(d, 0, 8)
		if j.Number() != x.want || (e == api.ErrCorrupt) != (x.want == 0) {
			t.Errorf("heads %d: %d, %v", i, j.Number(), e)
		}
	}
}
