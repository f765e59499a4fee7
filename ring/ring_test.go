package ring_test

import (
	"math"
	"math/big"
	"math/rand/v2"
	"testing"

	"sealring/api"
	"sealring/ring"
)

const most = math.MaxUint64

var (
	top  = api.Num{most, most, most, most}
	high = api.Num{3: 1 << 63}
	one  = api.Num{1}
	full = new(big.Int).Lsh(big.NewInt(1), 256)
)

// value of words, worked out without the project's own packages.
func value(words ...uint64) *big.Int {
	v := new(big.Int)
	for i := len(words) - 1; i >= 0; i-- {
		v.Lsh(v, 64)
		v.Or(v, new(big.Int).SetUint64(words[i]))
	}
	return v
}

func num(a api.Num) *big.Int   { return value(a[:]...) }
func wide(w api.Wide) *big.Int { return value(w[:]...) }

// rings: the least number, those next to powers of 2, at each word's edges, primes and products, and of every length out of a fixed seed.
func rings() []api.Num {
	out := []api.Num{
		{3}, {5}, {7}, {9}, {15}, {255}, {1000003},
		{most}, {most - 2}, {1, 1}, {most, most}, {1, 0, 1}, {most, most, most}, {1, 0, 0, 1},
		{1, 0, 0, 1 << 63}, {most, most, most, most >> 1}, {most - 2, most, most, most}, top,
		{most - 18, most, most, most >> 1},
		{0x5812631a5cf5d3ed, 0x14def9dea2f79cd6, 0, 1 << 60},
	}
	r := rand.New(rand.NewPCG(30, 32))
	for words := range 4 {
		for shift := range 8 {
			var m api.Num
			for i := range words + 1 {
				m[i] = r.Uint64()
			}
			m[words] = m[words]>>uint(8*shift) | 1
			m[0] |= 1
			out = append(out, m)
		}
	}
	return out
}

// samples: numbers below m, at it and its multiples, and above it.
func samples(m api.Num) []api.Num {
	out := []api.Num{{}, one, {2}, {most}, {0, 1}, {0, 0, 0, 1}, high, {most - 1, most, most, most}, top}
	largest := new(big.Int).Div(num(top), num(m))
	for _, often := range []*big.Int{big.NewInt(1), big.NewInt(2), largest} {
		product := new(big.Int).Mul(num(m), often)
		for _, by := range []int64{-1, 0, 1} {
			if v := new(big.Int).Add(product, big.NewInt(by)); v.BitLen() <= 256 {
				out = append(out, numOf(v))
			}
		}
	}
	half := new(big.Int).Rsh(num(m), 1)
	out = append(out, numOf(half), numOf(half.Add(half, big.NewInt(1))))
	r := rand.New(rand.NewPCG(m[0], m[3]))
	for range 3 {
		a := api.Num{r.Uint64(), r.Uint64(), r.Uint64(), r.Uint64()}
		out = append(out, a, numOf(new(big.Int).Mod(num(a), num(m))))
	}
	return out
}

func numOf(v *big.Int) api.Num {
	var a api.Num
	for i := range a {
		a[i] = new(big.Int).Rsh(v, uint(64*i)).Uint64()
	}
	return a
}

func ringOf(t *testing.T, m api.Num) *ring.Ring {
	t.Helper()
	r, e := ring.New(m)
	if r == nil || e != api.OK {
		t.Fatalf("New(%x) = %v, %d; want a ring", m, r, e)
	}
	return r
}

// check that got is want modulo m, and below m.
func check(t *testing.T, name string, got api.Num, want *big.Int, m api.Num, args ...any) {
	t.Helper()
	if num(got).Cmp(new(big.Int).Mod(want, num(m))) != 0 {
		t.Errorf("%s%x = %x, modulo %x", name, args, got, m)
	}
}

func TestP30New(t *testing.T) {
	for _, m := range rings() {
		r := ringOf(t, m)
		for _, a := range samples(m)[:4] {
			r.Pow(r.Mul(a, a), a)
		}
		if got := r.Mod(); got != m {
			t.Errorf("Mod = %x; want %x", got, m)
		}
	}
}

func TestP30NoRing(t *testing.T) {
	wrong := []api.Num{{}, one, {2}, {4}, {1000002}, {most - 1}, {0, 1}, {0, 0, 1}, {0, 0, 0, 1}, {0, 1, 1, 1}, high, {most - 1, most, most, most}, {0, most, most, most}}
	for _, m := range wrong {
		if r, e := ring.New(m); r != nil || e != api.ErrArg {
			t.Errorf("New(%x) = %v, %d; want ErrArg and nil", m, r, e)
		}
	}
	// Only the number 1 is refused, not one whose lowest word is 1.
	for i := 1; i < 4; i++ {
		m := one
		m[i] = 1
		ringOf(t, m)
	}
}

func TestP30RingsApart(t *testing.T) {
	a, b := ringOf(t, api.Num{7}), ringOf(t, top)
	if got := a.Mul(api.Num{5}, api.Num{3}); got != one || a.Mod() != (api.Num{7}) {
		t.Errorf("5 * 3 modulo 7 = %x beside another ring", got)
	}
	if got := b.Mul(api.Num{5}, api.Num{3}); got != (api.Num{15}) || b.Mod() != top {
		t.Errorf("5 * 3 modulo %x = %x beside another ring", top, got)
	}
}

func TestP31Examples(t *testing.T) {
	r := ringOf(t, api.Num{1000003})
	for i, c := range []struct{ got, want api.Num }{
		{r.Add(api.Num{1000002}, one), api.Num{}},
		{r.Add(api.Num{}, api.Num{}), api.Num{}},
		{r.Add(api.Num{1000003}, api.Num{2000009}), api.Num{3}},
		{r.Sub(api.Num{}, one), api.Num{1000002}},
		{r.Sub(api.Num{5}, api.Num{5}), api.Num{}},
		{r.Sub(api.Num{}, api.Num{1000003}), api.Num{}},
		{r.Sub(api.Num{1000004}, api.Num{2000006}), one},
		{r.Mul(api.Num{1000002}, api.Num{2}), api.Num{1000001}},
		{r.Mul(api.Num{1000005}, api.Num{1000006}), api.Num{6}},
		{r.Mul(top, api.Num{1000003}), api.Num{}},
		{r.Pow(api.Num{2}, api.Num{10}), api.Num{1024}},
		{r.Pow(api.Num{2}, api.Num{1000002}), one},
		{r.Pow(api.Num{1000005}, one), api.Num{2}},
		{r.Pow(top, api.Num{}), one},
		{r.Pow(api.Num{1000003}, api.Num{}), one},
		{r.Pow(api.Num{1000003}, one), api.Num{}},
		{r.Pow(api.Num{}, top), api.Num{}},
		{r.Pow(one, top), one},
		{r.Pow(api.Num{1000002}, top), api.Num{1000002}},
		{r.Pow(api.Num{1000002}, high), one},
	} {
		if c.got != c.want {
			t.Errorf("example %d: %x; want %x", i, c.got, c.want)
		}
	}
}

func TestP31All(t *testing.T) {
	for _, m := range rings() {
		r := ringOf(t, m)
		all := samples(m)
		for _, a := range all {
			for _, b := range all {
				check(t, "Add", r.Add(a, b), new(big.Int).Add(num(a), num(b)), m, a, b)
				check(t, "Sub", r.Sub(a, b), new(big.Int).Sub(num(a), num(b)), m, a, b)
				check(t, "Mul", r.Mul(a, b), new(big.Int).Mul(num(a), num(b)), m, a, b)
			}
		}
	}
}

func TestP31Pow(t *testing.T) {
	for _, m := range rings() {
		r := ringOf(t, m)
		for _, a := range samples(m) {
			for _, n := range []api.Num{{}, one, {2}, {3}, {10}, {most}, {0, 1}, high, top, a, m} {
				check(t, "Pow", r.Pow(a, n), new(big.Int).Exp(num(a), num(n), num(m)), m, a, n)
			}
		}
	}
}

func TestP32Examples(t *testing.T) {
	seven, greatest := ringOf(t, api.Num{7}), ringOf(t, top)
	for i, c := range []struct{ got, want api.Num }{
		// 2^256 modulo 7 is 2, and 4 is its inverse.
		{seven.In(one), api.Num{2}},
		{seven.In(api.Num{7}), api.Num{}},
		{seven.In(api.Num{11}), one},
		{seven.Out(api.Wide{1}), api.Num{4}},
		{seven.Out(api.Wide{}), api.Num{}},
		{seven.Out(api.Wide{4: 6}), api.Num{6}},
		{seven.Out(api.Wide{4: 7}), api.Num{}},
		{seven.Out(api.Wide{1, 0, 0, 0, 6}), api.Num{3}},
		{greatest.In(top), api.Num{}},
		{greatest.In(api.Num{5}), api.Num{5}},
		{greatest.Out(api.Wide{most, most, most, most}), api.Num{}},
		{greatest.Out(api.Wide{1, 0, 0, 0, most, most, most, most}), one},
		{greatest.Out(api.Wide{most - 1, most, most, most, 3}), api.Num{2}},
	} {
		if c.got != c.want {
			t.Errorf("example %d: %x; want %x", i, c.got, c.want)
		}
	}
}

func TestP32In(t *testing.T) {
	for _, m := range rings() {
		r := ringOf(t, m)
		for _, a := range samples(m) {
			in := r.In(a)
			check(t, "In", in, new(big.Int).Mul(num(a), full), m, a)
			back := r.Out(api.Wide{in[0], in[1], in[2], in[3]})
			check(t, "Out of In", back, num(a), m, a)
		}
	}
}

func TestP32Out(t *testing.T) {
	for _, m := range rings() {
		r := ringOf(t, m)
		part := new(big.Int).ModInverse(full, num(m))
		all := samples(m)
		for _, lo := range all {
			for _, hi := range all {
				w := api.Wide{lo[0], lo[1], lo[2], lo[3], hi[0], hi[1], hi[2], hi[3]}
				check(t, "Out", r.Out(w), new(big.Int).Mul(wide(w), part), m, w)
			}
		}
	}
}
