package sketch

import (
	"math/big"
	"math/rand"
	"strings"
	"testing"

	"wattle/api"
)

func made(t *testing.T, p int, hashes ...uint64) string {
	t.Helper()
	s, e := New(p)
	for _, h := range hashes {
		if e == api.OK {
			s, e = Add(s, h)
		}
	}
	if e != api.OK {
		t.Fatal(e)
	}
	return s
}

// P27.1, P27.2: the chapter's examples.
func TestExamples(t *testing.T) {
	if Hash(0, 0) != 0xE220A8397B1DCDAF || Hash(1, 2) != 0xF893A2EEFB32555E {
		t.Errorf("%x, %x", Hash(0, 0), Hash(1, 2))
	}
	s := made(t, 4)
	p, e := Exponent(s)
	n, f := Estimate(s)
	if s != strings.Repeat("\x00", 16) || p != 4 || n != 0 || e != 0 || f != 0 {
		t.Error("New(4)")
	}
	for _, p := range []int{3, 17, -1} {
		if s, e := New(p); s != "" || e != api.ErrArg {
			t.Errorf("New(%d): %v", p, e)
		}
	}
	for _, x := range []struct {
		hash uint64
		at   int
		rank byte
	}{{0xF000000000000001, 15, 60}, {0, 0, 61}, {0xFFFFFFFFFFFFFFFF, 15, 1}, {0x1400000000000000, 1, 2}} {
		s := made(t, 4, x.hash)
		if want := strings.Repeat("\x00", x.at) + string([]byte{x.rank}) + strings.Repeat("\x00", 15-x.at); s != want {
			t.Errorf("%x: %x", x.hash, s)
		}
		if n, e := Estimate(s); n != 1 || e != 0 {
			t.Errorf("%x: %d", x.hash, n)
		}
	}
	if s, e := Union(made(t, 4), made(t, 5)); s != "" || e != api.ErrArg {
		t.Error("unlike exponents")
	}
	for i, bad := range []string{"", strings.Repeat("\x00", 17), strings.Repeat("\x3e", 16), strings.Repeat("\x00", 8), strings.Repeat("\x00", 1<<17), strings.Repeat("\x3d", 32)} {
		_, a := Exponent(bad)
		_, b := Add(bad, 1)
		_, c := Union(bad, made(t, 4))
		_, d := Union(made(t, 5), bad)
		n, e := Estimate(bad)
		if a != api.ErrForm || b != api.ErrForm || c != api.ErrForm || d != api.ErrForm || e != api.ErrForm || n != 0 {
			t.Errorf("bytes %d: %v, %v, %v, %v, %v", i, a, b, c, d, e)
		}
	}
	if _, e := Exponent(strings.Repeat("\x3d", 16)); e != 0 {
		t.Error("the greatest registers")
	}
}

// exact is the estimate by numbers of any size.
func exact(s string) uint64 {
	m := int64(len(s))
	sum, zeros := new(big.Int), int64(0)
	for i := range len(s) {
		sum.Add(sum, new(big.Int).Lsh(big.NewInt(1), uint(max(40-int(s[i]), 0))))
		if s[i] == 0 {
			zeros++
		}
	}
	x := new(big.Int).Mul(big.NewInt(7213*m), big.NewInt(m*m))
	x.Div(x, big.NewInt(10000*m+10790)).Lsh(x, 40).Div(x, sum)
	if two := new(big.Int).Lsh(x, 1); zeros == 0 || two.Cmp(big.NewInt(5*m)) > 0 {
		return x.Uint64()
	}
	total := int64(0)
	for i := zeros + 1; i <= m; i++ {
		total += m << 20 / i
	}
	return uint64(total >> 20)
}

// P27.2: estimates, of all exponents, are the chapter's numbers, and near.
func TestEstimate(t *testing.T) {
	rnd := rand.New(rand.NewSource(1))
	for p := Least; p <= Most; p++ {
		for range 12 {
			b := make([]byte, 1<<p)
			top := 1 + rnd.Intn(66-p)
			for i := range b {
				b[i] = byte(rnd.Intn(top))
			}
			s := string(b)
			if n, e := Estimate(s); n != exact(s) || e != 0 {
				t.Fatalf("exponent %d: %d, not %d", p, n, exact(s))
			}
		}
		full := strings.Repeat(string([]byte{byte(65 - p)}), 1<<p)
		if n, _ := Estimate(full); n != exact(full) {
			t.Fatalf("exponent %d, all full: %d", p, n)
		}
	}
	s := made(t, 10)
	for i := range uint64(20000) {
		s, _ = Add(s, Hash(3, i))
		if n, _ := Estimate(s); i%5000 == 4999 && (n < i*8/10 || n > i*12/10) {
			t.Errorf("%d things: %d", i+1, n)
		}
	}
}

// P27.3, P27.4: whatever the order; no register less.
func TestOrder(t *testing.T) {
	rnd := rand.New(rand.NewSource(2))
	for range 100 {
		p := Least + rnd.Intn(5)
		var l []uint64
		for range rnd.Intn(200) {
			l = append(l, Hash(rnd.Uint64(), rnd.Uint64()))
		}
		k := rnd.Intn(len(l) + 1)
		a, b, all := made(t, p, l[:k]...), made(t, p, l[k:]...), made(t, p, l...)
		rnd.Shuffle(len(l), func(i, j int) { l[i], l[j] = l[j], l[i] })
		x, _ := Union(a, b)
		y, _ := Union(b, a)
		z, _ := Union(a, a)
		c := made(t, p, rnd.Uint64())
		left, _ := Union(x, c)
		right, _ := Union(b, c)
		right, _ = Union(a, right)
		if x != all || y != all || z != a || left != right || made(t, p, append(l, l...)...) != all {
			t.Fatal("another order")
		}
		for i := range len(a) {
			if x[i] < a[i] || x[i] < b[i] {
				t.Fatal("a register less")
			}
		}
		if more := made(t, p, append(l, 5)...); len(more) != len(all) {
			t.Fatal("Add")
		}
	}
	seen := map[uint64]int{}
	for i := range uint64(50000) {
		seen[Hash(7, i)] = 1
	}
	if len(seen) != 50000 {
		t.Error("two numbers of one hash")
	}
	for p := Least; p <= Most; p++ {
		if n, _ := Estimate(made(t, p, rnd.Uint64())); n != 1 {
			t.Errorf("exponent %d: one hash is %d", p, n)
		}
	}
}
