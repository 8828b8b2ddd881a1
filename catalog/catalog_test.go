package catalog

import (
	"math/rand"
	"slices"
	"sort"
	"strings"
	"testing"

	"wattle/api"
	"wattle/blockdev"
	"wattle/num"
	"wattle/sums"
)

func device(t *testing.T, blocks, sectors int) *blockdev.Device {
	t.Helper()
	d, e := blockdev.New(blockdev.Geometry{Blocks: blocks, Sectors: sectors})
	if e != api.OK {
		t.Fatal(e)
	}
	return d
}

func mounted(t *testing.T, d *blockdev.Device, frames int) *Store {
	t.Helper()
	s, _, e := Mount(d, frames)
	if e != api.OK {
		t.Fatal(e)
	}
	return s
}

func fresh(t *testing.T, blocks int) *Store {
	t.Helper()
	d := device(t, blocks, 1)
	if e := Format(d, Config{16}); e != api.OK {
		t.Fatal(e)
	}
	return mounted(t, d, 8)
}

func ext(start, n int) api.Extent { return api.Extent{Start: start, Len: n} }

func put(l ...Entry) Change { return Change{Put: l} }

func gone(l ...Key) Change { return Change{Delete: l} }

// P29.1 to P29.4: the chapter's examples.
func TestExamples(t *testing.T) {
	d := device(t, 64, 1)
	if s, n, e := Mount(d, 8); s != nil || n != 0 || e != api.ErrForm {
		t.Error("Mount ahead of Format")
	}
	if Format(d, Config{16}) != 0 {
		t.Fatal("Format")
	}
	s, n, e := Mount(d, 8)
	if n != 0 || e != 0 || s.Check() != 0 {
		t.Fatal(e)
	}
	x, e := s.Space().Take(3)
	if x != ext(19, 3) || e != 0 {
		t.Error("Take")
	}
	a := Entry{1, "a", x, "x"}
	if s.Commit(put(a)) != 0 || s.Commit(put(a)) != 0 {
		t.Error("Commit")
	}
	if got, e := s.Get(1, "a"); got != a || e != 0 {
		t.Error("Get")
	}
	if s.Commit(put(Entry{2, "b", x, ""})) != api.ErrArg || s.Commit(gone(Key{1, "c"})) != api.ErrNone || s.Commit(put(Entry{0, "b", ext(0, 0), ""})) != api.ErrName {
		t.Error("refused")
	}
	if s.Commit(Change{[]Entry{{2, "b", ext(0, 0), "y"}}, []Key{{1, "a"}}}) != 0 {
		t.Error("Commit of both")
	}
	l, e := s.List(1)
	m, f := s.List(2)
	if len(l) != 0 || e != 0 || f != 0 || !slices.Equal(m, []Entry{{2, "b", ext(0, 0), "y"}}) || s.Space().Map().Room() != 44 || s.Check() != 0 {
		t.Error("what is there then")
	}
	if s.Commit(Change{}) != 0 || s.Commit(gone(Key{2, "b"})) != 0 || s.Space().Map().Room() != 45 || s.Check() != 0 {
		t.Error("nothing")
	}
}

// P29.1: what Format writes, and refuses.
func TestFormat(t *testing.T) {
	d := device(t, 64, 2)
	for i, x := range []struct {
		d    *blockdev.Device
		log  int
		want api.Errno
	}{{nil, 0, api.ErrNil}, {d, 15, api.ErrArg}, {d, -1, api.ErrArg}, {d, 64 - 3 - 8 + 1, api.ErrArg}, {d, 1 << 62, api.ErrArg}, {d, 64 - 3 - 8, 0}, {d, 16, 0}} {
		if e := Format(x.d, Config{x.log}); e != x.want {
			t.Errorf("call %d: %v", i, e)
		}
	}
	img := d.Image()
	super := "WTSB" + num.Text(1, 4) + num.Text(64, 4) + num.Text(2, 4) + num.Text(16, 4)
	super += num.Text(uint64(sums.Crc(super)), 4)
	root := "WTRB" + num.Text(0, 4)
	bits := "\xff\xff\xe0"
	for no, want := range map[int]string{0: super, 17: root, 18: bits} {
		if !strings.HasPrefix(img[no], want) || !num.Blank(img[no][len(want):]) {
			t.Errorf("the block %d: %x", no, img[no][:32])
		}
	}
	if d.Unflushed() != 0 {
		t.Error("not all is safe")
	}
	d.Pull(blockdev.Crash{})
	if Format(d, Config{0}) != api.ErrDown {
		t.Error("down")
	}
	if _, _, e := Mount(d, 0); e != api.ErrDown {
		t.Error("down")
	}
}

// P29.2: devices that have no store.
func TestMount(t *testing.T) {
	s := fresh(t, 64)
	d := s.d
	x, _ := s.Space().Take(2)
	s.Commit(put(Entry{1, "a", x, ""}))
	s.j.Checkpoint()
	for _, frames := range []int{0, -1, 1025} {
		if s, _, e := Mount(d, frames); s != nil || e != api.ErrArg {
			t.Errorf("%d frames: %v", frames, e)
		}
	}
	if s, _, e := Mount(nil, 0); s != nil || e != api.ErrNil {
		t.Error("no device")
	}
	for i, c := range []struct {
		no, at int
		want   api.Errno
	}{{0, 3, api.ErrForm}, {0, 11, api.ErrForm}, {0, 500, api.ErrForm}, {0, 19, api.ErrForm}, {2, 5, api.ErrCorrupt}, {17, 2, api.ErrCorrupt}, {17, 7, api.ErrCorrupt}, {17, 100, api.ErrCorrupt}, {18, 2, api.ErrCorrupt}, {18, 7, api.ErrCorrupt}, {18, 300, api.ErrCorrupt}, {s.root, 0, api.ErrCorrupt}, {s.root, 8, api.ErrCorrupt}, {s.root, 400, api.ErrCorrupt}} {
		u := d.Twin()
		b := u.Image()[c.no][c.at]
		u.Corrupt(c.no, c.at, string([]byte{b ^ 3}))
		if c.no == 2 {
			u.Corrupt(1, c.at, "\xff")
		}
		if m, _, e := Mount(u, 4); m != nil || e != c.want {
			t.Errorf("overwritten %d: %v", i, e)
		}
		other := *s
		other.d = u
		if e := other.Check(); e != api.ErrCorrupt {
			t.Errorf("Check, overwritten %d: %v", i, e)
		}
	}
	if s.Check() != 0 {
		t.Error("Check")
	}
}

// R1, and the errors of Get and List.
func TestRefused(t *testing.T) {
	for _, s := range []*Store{nil, {}} {
		_, e := s.Get(0, "")
		_, f := s.List(0)
		if e != api.ErrNil || f != api.ErrNil || s.Commit(Change{}) != api.ErrNil || s.Check() != api.ErrNil || s.Space() != nil {
			t.Error("a nil store")
		}
	}
	s := fresh(t, 64)
	long := strings.Repeat("n", 63)
	x, _ := s.Space().Take(4)
	y, _ := s.Space().Take(2)
	if s.Commit(put(Entry{9, long, x, strings.Repeat("d", 40)}, Entry{1, "\x00", ext(0, 0), ""})) != 0 {
		t.Fatal("the longest")
	}
	for _, k := range []Key{{0, "a"}, {10, "a"}, {1, ""}, {1, long + "n"}} {
		_, e := s.Get(k.Kind, k.Name)
		if e != api.ErrName || s.Commit(gone(k)) != api.ErrName || s.Commit(put(Entry{k.Kind, k.Name, ext(1, -1), ""})) != api.ErrName {
			t.Errorf("%v", k)
		}
	}
	if _, e := s.Get(1, "z"); e != api.ErrNone {
		t.Error("no entry")
	}
	for _, k := range []uint8{0, 10} {
		if _, e := s.List(k); e != api.ErrName {
			t.Errorf("kind %d", k)
		}
	}
	room := s.Space().Map().Room()
	for i, c := range []struct {
		c    Change
		want api.Errno
	}{
		{put(Entry{1, "a", ext(0, 0), ""}, Entry{1, "a", ext(0, 0), ""}), api.ErrArg},
		{Change{[]Entry{{9, long, ext(0, 0), ""}}, []Key{{9, long}}}, api.ErrArg},
		{gone(Key{9, long}, Key{9, long}), api.ErrArg},
		{put(Entry{1, "a", ext(0, 0), strings.Repeat("d", 41)}), api.ErrArg},
		{put(Entry{1, "a", ext(18, 2), ""}), api.ErrArg},                              // not of the data area
		{put(Entry{1, "a", ext(63, 2), ""}), api.ErrArg},                              // not of the device
		{put(Entry{1, "a", ext(y.Start, 0), ""}), api.ErrArg},                         // no extent
		{put(Entry{1, "a", ext(y.Start, -1), ""}), api.ErrArg},                        //
		{put(Entry{1, "a", ext(y.Start, 1<<62), ""}), api.ErrArg},                     //
		{put(Entry{1, "a", ext(40, 1), ""}), api.ErrArg},                              // not taken
		{put(Entry{1, "a", ext(x.Start, 1), ""}), api.ErrArg},                         // another entry's
		{put(Entry{1, "a", ext(s.root, 1), ""}), api.ErrArg},                          // a page's
		{put(Entry{9, long, ext(x.Start, 2), ""}), api.ErrArg},                        // not the very extent
		{put(Entry{1, "a", y, ""}, Entry{1, "b", ext(y.Start+1, 1), ""}), api.ErrArg}, // another Put's
		{Change{[]Entry{{1, "a", x, ""}}, []Key{{9, long}}}, api.ErrArg},              // another entry's, that goes
		{Change{[]Entry{{1, "a", ext(1, 1), ""}}, []Key{{1, "z"}}}, api.ErrArg},       // ahead of ErrNone
		{Change{[]Entry{{1, "a", ext(1, 1), ""}}, []Key{{1, ""}}}, api.ErrName},       // ahead of ErrArg
		{Change{[]Entry{{1, "a", y, ""}}, []Key{{1, "z"}}}, api.ErrNone},
	} {
		if e := s.Commit(c.c); e != c.want || s.Space().Map().Room() != room || s.Check() != 0 {
			t.Errorf("change %d: %v", i, e)
		}
	}
	m := s.Space().Map()
	m.Begin()
	if s.Commit(gone(Key{1, "z"})) != api.ErrNone || s.Commit(gone(Key{1, "\x00"})) != api.ErrState || !m.Open() || m.Abort() != 0 {
		t.Error("a transaction of the map is open")
	}
	s.Space().Write(x.Start, strings.Repeat("q", 512))
	s.Space().Pin(x.Start)
	if s.Commit(gone(Key{9, long})) != api.ErrState || m.Room() != room || s.Space().Unpin(x.Start) != 0 || s.Commit(gone(Key{9, long})) != 0 || m.Room() != room+4 {
		t.Error("a page of it is pinned")
	}
	if s.Space().Give(y) != 0 {
		t.Error("scratch")
	}
}

// A store whose device is down is dead, but behind its own calls alone.
func TestDead(t *testing.T) {
	s := fresh(t, 64)
	s.Commit(put(Entry{1, "a", ext(0, 0), ""}))
	s.d.Pull(blockdev.Crash{})
	if _, e := s.Get(1, "a"); e != api.OK {
		t.Error("Get asks no device")
	}
	if s.Commit(gone(Key{0, ""})) != api.ErrDown {
		t.Error("Commit")
	}
	s.d.Restart()
	_, e := s.Get(0, "")
	_, f := s.List(0)
	if e != api.ErrDown || f != api.ErrDown || s.Check() != api.ErrDown || s.Commit(Change{}) != api.ErrDown || s.Space() == nil {
		t.Error("dead")
	}
	s = mounted(t, s.d, 2)
	s.d.Pull(blockdev.Crash{})
	if s.Check() != api.ErrDown || s.Check() != api.ErrDown {
		t.Error("Check")
	}
}

// P29.4: what Check sees: scratch is none of its, but what an entry has must be taken.
func TestCheck(t *testing.T) {
	s := fresh(t, 64)
	x, _ := s.Space().Take(2)
	s.Commit(put(Entry{1, "a", x, ""}))
	s.Space().Take(5)
	if s.Check() != 0 {
		t.Error("scratch")
	}
	s.Space().Map().Free(ext(x.Start, 1))
	if s.Check() != api.ErrCorrupt {
		t.Error("a block of an entry that is free")
	}
	s.Space().Map().Take(ext(x.Start, 1))
	other := mounted(t, s.d, 2)
	if s.Check() != 0 || other.Commit(put(Entry{1, "a", x, "other"})) != 0 || s.Check() != api.ErrCorrupt {
		t.Error("other entries")
	}
}

// P29.6: a full device, a change that is too great; all of it given back.
func TestNoRoom(t *testing.T) {
	s := fresh(t, 40)
	m := s.Space().Map()
	names := 0
	for {
		e := s.Commit(put(Entry{1, "n" + num.Text(uint64(names), 3) + strings.Repeat("x", 50), ext(0, 0), strings.Repeat("d", 30)}))
		if e == api.ErrFull {
			break
		}
		if e != 0 || s.Check() != 0 {
			t.Fatal(e)
		}
		names++
	}
	if m.Room() > 2 || names < 30 {
		t.Errorf("%d entries, room %d", names, m.Room())
	}
	l, _ := s.List(1)
	x := l[names/2]
	x.Data = strings.Repeat("e", 30)
	if s.Commit(put(x)) != 0 || s.Check() != 0 {
		t.Error("another value on a full device")
	}
	l, _ = s.List(1)
	others := slices.Clone(l)
	for i := range others {
		others[i].Data = "other"
	}
	if e := s.Commit(put(others...)); e != api.ErrLog || s.Check() != 0 {
		t.Error("all at once", e)
	}
	if again, _ := s.List(1); !slices.Equal(again, l) {
		t.Error("a change that was refused")
	}
	for _, x := range l {
		if e := s.Commit(gone(x.key())); e != 0 {
			t.Fatal(e)
		}
	}
	if m.Room() != 21 || s.Check() != 0 {
		t.Errorf("room %d", m.Room())
	}
	if x, e := s.Space().Take(21); x.Len != 21 || e != 0 {
		t.Error("the whole data area")
	}
}

// model is entries by their keys, with what stands in their extents.
type model struct {
	l    map[Key]Entry
	text map[Key]string
}

func (m model) clone() model {
	c := model{map[Key]Entry{}, map[Key]string{}}
	for k, x := range m.l {
		c.l[k], c.text[k] = x, m.text[k]
	}
	return c
}

func (m model) is(t *testing.T, s *Store) bool {
	t.Helper()
	n := 0
	for kind := uint8(1); kind <= MaxKind; kind++ {
		l, e := s.List(kind)
		if e != 0 || !sort.SliceIsSorted(l, func(i, j int) bool { return l[i].Name < l[j].Name }) {
			t.Fatal(e)
		}
		n += len(l)
		for _, x := range l {
			if m.l[x.key()] != x {
				return false
			}
			for i := range x.X.Len {
				if text, _ := s.Space().Read(x.X.Start + i); text != m.text[x.key()] {
					return false
				}
			}
		}
	}
	return n == len(m.l)
}

// change is some change of a store, made in a model; extents are taken, and written.
func (m model) change(t *testing.T, rnd *rand.Rand, s *Store) (Change, bool) {
	t.Helper()
	var c Change
	touched := map[Key]bool{}
	for range 1 + rnd.Intn(3) {
		k := Key{uint8(1 + rnd.Intn(3)), string(rune('a'+rnd.Intn(20))) + strings.Repeat("z", rnd.Intn(60))}
		for other := range m.l {
			if rnd.Intn(2) == 0 && (k.Name > other.Name || rnd.Intn(3) == 0) {
				k = other
			}
		}
		old, ok := m.l[k]
		if touched[k] {
			continue
		}
		touched[k] = true
		if ok && rnd.Intn(2) == 0 {
			c.Delete = append(c.Delete, k)
			delete(m.l, k)
			delete(m.text, k)
			continue
		}
		x := Entry{k.Kind, k.Name, old.X, strings.Repeat("d", rnd.Intn(41))}
		if !ok || rnd.Intn(2) == 0 {
			x.X = ext(0, 0)
			if rnd.Intn(4) > 0 {
				var e api.Errno
				if x.X, e = s.Space().Take(1 + rnd.Intn(3)); e == api.ErrFull {
					return c, false
				}
				m.text[k] = strings.Repeat(string(rune('A'+rnd.Intn(26))), s.lay.size)
				for i := range x.X.Len {
					if e := s.Space().Write(x.X.Start+i, m.text[k]); e == api.ErrDown {
						return c, false
					}
				}
			}
		}
		c.Put = append(c.Put, x)
		m.l[k] = x
	}
	return c, true
}

func crash(rnd *rand.Rand) blockdev.Crash {
	c := blockdev.Crash{Torn: rnd.Intn(24) - 1, Mask: uint8(rnd.Intn(256))}
	for i := range 40 {
		if rnd.Intn(2) == 0 {
			c.Keep = append(c.Keep, i)
		}
	}
	return c
}

// P29.3, P29.5: wholly or not, at whatever call the device goes down, and again within each Mount.
func TestCrashes(t *testing.T) {
	rnd := rand.New(rand.NewSource(1))
	for range 120 {
		d := device(t, 64+rnd.Intn(100), 1+rnd.Intn(2))
		Format(d, Config{16 + rnd.Intn(8)})
		s := mounted(t, d, 1+rnd.Intn(8))
		before := model{map[Key]Entry{}, map[Key]string{}}
		for range 12 {
			if rnd.Intn(3) > 0 {
				d.Plan(1+rnd.Intn(120), crash(rnd))
			}
			after := before.clone()
			for !d.Down() {
				after = before.clone()
				c, ok := after.change(t, rnd, s)
				if !ok {
					after = before
					break
				}
				e := s.Commit(c)
				switch e {
				case api.OK:
					before = after
				case api.ErrDown:
				case api.ErrFull, api.ErrLog:
					after = before
				default:
					t.Fatal(e)
				}
				if !d.Down() && (s.Check() != 0 || !before.is(t, s)) {
					t.Fatal("not what the model has")
				}
				if rnd.Intn(10) == 0 {
					break
				}
			}
			if !d.Down() {
				d.Pull(crash(rnd))
			}
			for range rnd.Intn(3) {
				d.Restart()
				d.Plan(1+rnd.Intn(14), crash(rnd))
				Mount(d, 2)
				if !d.Down() {
					d.Pull(crash(rnd))
				}
			}
			d.Restart()
			s = mounted(t, d, 1+rnd.Intn(8))
			if before.is(t, s) {
				after = before
			} else if !after.is(t, s) {
				t.Fatal("neither ahead of the change nor behind it")
			}
			before = after
			room := d.Blocks() - s.lay.dataAt() - len(s.pages)
			for _, x := range before.l {
				room -= x.X.Len
			}
			if s.Check() != 0 || s.Space().Map().Room() != room {
				t.Fatal("scratch is taken")
			}
		}
	}
}

// P29.1: the device goes down within Format: nothing, or the new store, or the old one.
func TestFormatCrashes(t *testing.T) {
	rnd := rand.New(rand.NewSource(2))
	for range 200 {
		d := device(t, 64, 2)
		Format(d, Config{16})
		s := mounted(t, d, 2)
		s.Commit(put(Entry{1, "old", ext(0, 0), ""}))
		at := 1 + rnd.Intn(30)
		d.Plan(at, crash(rnd))
		Format(d, Config{20})
		if !d.Down() {
			t.Fatal("not so many calls")
		}
		d.Restart()
		s, _, e := Mount(d, 2)
		if e == api.ErrForm {
			continue
		}
		if e != 0 || s.Check() != 0 {
			t.Fatal(e)
		}
		if _, e := s.Get(1, "old"); (e == 0) != (s.lay.log == 16) || e == 0 && at > 2 {
			t.Fatal("a mixed store")
		}
	}
}

// P29.5: a block that was a page, and is an entry's now, is not written again as a page, when the device comes up.
func TestPageBecomesData(t *testing.T) {
	for names := 8; names < 30; names++ {
		s := fresh(t, 64)
		var l []Entry
		for i := range names {
			l = append(l, Entry{1, string(rune('a'+i)) + strings.Repeat("n", 50), ext(0, 0), strings.Repeat("d", 40)})
			if e := s.Commit(put(l[i])); e != 0 {
				t.Fatal(e)
			}
		}
		before := s.Space().Map().Twin()
		for _, x := range l[2:] {
			if e := s.Commit(gone(x.key())); e != 0 {
				t.Fatal(e)
			}
		}
		n := 0
		for no := s.lay.dataAt(); no < s.lay.blocks; no++ {
			if !before.Taken(no) || s.Space().Map().Taken(no) {
				continue
			}
			if e := s.Space().Map().Take(block(no)); e != 0 {
				t.Fatal(e)
			}
			s.Space().Write(no, strings.Repeat("q", 512))
			if e := s.Commit(put(Entry{2, string(rune('A' + n)), block(no), ""})); e != 0 {
				t.Fatal(e)
			}
			n++
		}
		s.d.Pull(blockdev.Crash{Torn: -1})
		s.d.Restart()
		s = mounted(t, s.d, 4)
		all, _ := s.List(2)
		for _, x := range all {
			if text, _ := s.Space().Read(x.X.Start); text != strings.Repeat("q", 512) {
				t.Fatalf("%d entries: the block %d is a page again", names, x.X.Start)
			}
		}
		if len(all) != n || n == 0 || s.Check() != 0 {
			t.Fatal(n, len(all))
		}
	}
}

// What the cache had of a block is forgotten, when that becomes a page, or is none any more.
func TestCache(t *testing.T) {
	s := fresh(t, 64)
	look := func() {
		t.Helper()
		img := s.d.Image()
		for no := s.lay.dataAt(); no < s.lay.blocks; no++ {
			if text, e := s.Space().Read(no); text != img[no] || e != 0 {
				t.Fatalf("the block %d", no)
			}
		}
	}
	s, _, _ = Mount(s.d, 64)
	look()
	var l []Entry
	for i := range 12 {
		l = append(l, Entry{1, string(rune('a'+i)) + strings.Repeat("n", 50), ext(0, 0), strings.Repeat("d", 40)})
		s.Commit(put(l[i]))
		look()
	}
	for _, x := range l {
		s.Commit(gone(x.key()))
		look()
	}
}
