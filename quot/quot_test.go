package quot_test

import (
	"math"
	"math/big"
	"math/rand/v2"
	"testing"

	"sealring/api"
	"sealring/quot"
)

const most = math.MaxUint64

var (
	top  = api.Num{most, most, most, most}
	high = api.Num{3: 1 << 63}
	one  = api.Num{1}
)

// value of words, worked out without the project's own packages.
func value(words ...uint64) *big.Int {
	v := new(big.Int)
	for i := len(words) - 1; i >= 0; i-- {
		v.Lsh(v, 64)
		v.Or(v, new(big.Int).SetUint64(words[i]))
	}
	return v
}

func num(a api.Num) *big.Int   { return value(a[:]...) }
func wide(w api.Wide) *big.Int { return value(w[:]...) }

func same(a, b *big.Int) bool { return a.Cmp(b) == 0 }

// samples: small numbers, each word at each of its edges, and numbers of every length out of a fixed seed.
func samples() []api.Num {
	var out []api.Num
	for i := range uint64(20) {
		out = append(out, api.Num{i})
	}
	edges := []uint64{0, 1, most}
	for i := range 81 {
		out = append(out, api.Num{edges[i%3], edges[i/3%3], edges[i/9%3], edges[i/27]})
	}
	out = append(out, high, api.Num{1, 0, 0, 1 << 63}, api.Num{most - 1, most, most, most})
	r := rand.New(rand.NewPCG(20, 22))
	for words := range 4 {
		for shift := range 16 {
			var a api.Num
			for i := range words + 1 {
				a[i] = r.Uint64()
			}
			a[words] >>= uint(4 * shift)
			out = append(out, a)
		}
	}
	return out
}

// wides: what is divided, of one half, of two, and next to a multiple of m.
func wides(m api.Num) []api.Wide {
	out := []api.Wide{{}, {1}, {4: 1}, {7: 1}, {7: 1 << 63}, {most, most, most, most}, {most, most, most, most, most, most, most, most}}
	r := rand.New(rand.NewPCG(m[0], m[3]))
	for words := range 8 {
		var w api.Wide
		for i := range words + 1 {
			w[i] = r.Uint64()
		}
		out = append(out, w)
	}
	for _, often := range []api.Num{one, top, {r.Uint64(), r.Uint64()}} {
		product := new(big.Int).Mul(num(m), num(often))
		for _, by := range []int64{-1, 0, 1} {
			if v := new(big.Int).Add(product, big.NewInt(by)); v.Sign() >= 0 && v.BitLen() <= 512 {
				out = append(out, wideOf(v))
			}
		}
	}
	return out
}

func wideOf(v *big.Int) api.Wide {
	var w api.Wide
	for i := range w {
		w[i] = new(big.Int).Rsh(v, uint(64*i)).Uint64()
	}
	return w
}

func TestP20Examples(t *testing.T) {
	for _, c := range []struct {
		a     api.Wide
		m     api.Num
		often api.Wide
		left  api.Num
	}{
		{api.Wide{}, one, api.Wide{}, api.Num{}},
		{api.Wide{}, top, api.Wide{}, api.Num{}},
		{api.Wide{17}, api.Num{5}, api.Wide{3}, api.Num{2}},
		{api.Wide{4}, api.Num{5}, api.Wide{}, api.Num{4}},
		{api.Wide{5}, api.Num{5}, api.Wide{1}, api.Num{}},
		{api.Wide{7: most}, one, api.Wide{7: most}, api.Num{}},
		{api.Wide{4: 1}, api.Num{3: 1}, api.Wide{1: 1}, api.Num{}},
		{api.Wide{4: 1}, top, api.Wide{1}, one},
		{api.Wide{most, most, most, most, most, most, most, most}, top, api.Wide{1, 0, 0, 0, 1}, api.Num{}},
		{api.Wide{most, most, most, most, most, most, most, most}, high, api.Wide{most, most, most, most, 1}, api.Num{most, most, most, most >> 1}},
	} {
		often, left, e := quot.DivMod(c.a, c.m)
		if often != c.often || left != c.left || e != api.OK {
			t.Errorf("DivMod(%x, %x) = %x, %x, %d; want %x, %x", c.a, c.m, often, left, e, c.often, c.left)
		}
	}
}

func TestP20All(t *testing.T) {
	for _, m := range samples() {
		if m == (api.Num{}) {
			continue
		}
		for _, a := range wides(m) {
			often, left := new(big.Int).DivMod(wide(a), num(m), new(big.Int))
			q, r, e := quot.DivMod(a, m)
			if !same(wide(q), often) || !same(num(r), left) || e != api.OK {
				t.Errorf("DivMod(%x, %x) = %x, %x, %d", a, m, q, r, e)
			}
			if r, e := quot.Mod(a, m); !same(num(r), left) || e != api.OK {
				t.Errorf("Mod(%x, %x) = %x, %d", a, m, r, e)
			}
		}
	}
}

func TestP20ByNought(t *testing.T) {
	for _, a := range wides(top) {
		if q, r, e := quot.DivMod(a, api.Num{}); q != (api.Wide{}) || r != (api.Num{}) || e != api.ErrArg {
			t.Errorf("DivMod(%x, 0) = %x, %x, %d; want ErrArg alone", a, q, r, e)
		}
		if r, e := quot.Mod(a, api.Num{}); r != (api.Num{}) || e != api.ErrArg {
			t.Errorf("Mod(%x, 0) = %x, %d; want ErrArg alone", a, r, e)
		}
	}
}

func TestP21Examples(t *testing.T) {
	for _, c := range []struct{ a, b, want api.Num }{
		{api.Num{}, api.Num{}, api.Num{}},
		{api.Num{}, top, top},
		{top, api.Num{}, top},
		{api.Num{}, high, high},
		{high, high, high},
		{top, top, top},
		{high, top, one},
		{api.Num{12}, api.Num{18}, api.Num{6}},
		{api.Num{8}, api.Num{12}, api.Num{4}},
		{api.Num{35}, api.Num{64}, one},
		{high, api.Num{1: 6}, api.Num{1: 2}},
		{api.Num{0, 0, 0, 9 << 20}, api.Num{0, 0, 15 << 30}, api.Num{0, 0, 3 << 30}},
	} {
		if got := quot.Gcd(c.a, c.b); got != c.want {
			t.Errorf("Gcd(%x, %x) = %x; want %x", c.a, c.b, got, c.want)
		}
	}
}

func TestP21All(t *testing.T) {
	all := samples()
	for _, a := range all {
		for _, b := range all {
			want := new(big.Int).GCD(nil, nil, num(a), num(b))
			if got := quot.Gcd(a, b); !same(num(got), want) {
				t.Errorf("Gcd(%x, %x) = %x", a, b, got)
			}
		}
	}
}

func TestP22Examples(t *testing.T) {
	for _, c := range []struct{ a, m, want api.Num }{
		{api.Num{5}, api.Num{7}, api.Num{3}},
		{api.Num{12}, api.Num{7}, api.Num{3}},
		{api.Num{3}, api.Num{8}, api.Num{3}},
		{api.Num{7}, api.Num{16}, api.Num{7}},
		{one, top, one},
		{api.Num{2}, top, high},
		{api.Num{most - 1, most, most, most}, top, api.Num{most - 1, most, most, most}},
		{top, api.Num{2}, one},
		{api.Num{}, one, api.Num{}},
		{one, one, api.Num{}},
		{api.Num{2}, one, api.Num{}},
		{top, one, api.Num{}},
	} {
		if got, e := quot.Inverse(c.a, c.m); got != c.want || e != api.OK {
			t.Errorf("Inverse(%x, %x) = %x, %d; want %x", c.a, c.m, got, e, c.want)
		}
	}
}

func TestP22None(t *testing.T) {
	for _, c := range [][2]api.Num{
		{api.Num{}, api.Num{2}},
		{api.Num{}, top},
		{api.Num{6}, api.Num{9}},
		{api.Num{9}, api.Num{9}},
		{api.Num{18}, api.Num{9}},
		{top, top},
		{high, api.Num{6}},
		{api.Num{2}, high},
		{api.Num{3}, top},
	} {
		if got, e := quot.Inverse(c[0], c[1]); got != (api.Num{}) || e != api.ErrNone {
			t.Errorf("Inverse(%x, %x) = %x, %d; want ErrNone alone", c[0], c[1], got, e)
		}
	}
}

func TestP22ByNought(t *testing.T) {
	// With a = 1 the Gcd is 1, with the others it is not: ErrArg is told first.
	for _, a := range samples() {
		if got, e := quot.Inverse(a, api.Num{}); got != (api.Num{}) || e != api.ErrArg {
			t.Errorf("Inverse(%x, 0) = %x, %d; want ErrArg alone", a, got, e)
		}
	}
}

func TestP22All(t *testing.T) {
	all := samples()
	for _, a := range all {
		for _, m := range all {
			if m == (api.Num{}) {
				continue
			}
			checkInverse(t, a, m)
		}
	}
}

func checkInverse(t *testing.T, a, m api.Num) {
	t.Helper()
	got, e := quot.Inverse(a, m)
	x, by := num(got), num(m)
	if !same(new(big.Int).GCD(nil, nil, num(a), by), big.NewInt(1)) {
		if got != (api.Num{}) || e != api.ErrNone {
			t.Errorf("Inverse(%x, %x) = %x, %d; want ErrNone alone", a, m, got, e)
		}
		return
	}
	product := new(big.Int).Mul(num(a), x)
	product.Sub(product, big.NewInt(1))
	if e != api.OK || x.Cmp(by) >= 0 || product.Mod(product, by).Sign() != 0 {
		t.Errorf("Inverse(%x, %x) = %x, %d", a, m, got, e)
	}
}
