package limb_test

import (
	"math"
	"math/big"
	"math/rand/v2"
	"testing"

	"sealring/api"
	"sealring/limb"
)

const most = math.MaxUint64

var (
	top = api.Num{most, most, most, most}
	one = api.Num{1}

	// What an int may be beyond the 256 bits, up to its own ends.
	farInts = []int{256, 257, 319, 320, 1 << 16, 1 << 32, 1<<32 + 1, math.MaxInt - 1, math.MaxInt}
)

// value is the promise's own sum, worked out without package limb.
func value(words ...uint64) *big.Int {
	v := new(big.Int)
	for i := len(words) - 1; i >= 0; i-- {
		v.Lsh(v, 64)
		v.Or(v, new(big.Int).SetUint64(words[i]))
	}
	return v
}

func num(a api.Num) *big.Int   { return value(a[:]...) }
func wide(w api.Wide) *big.Int { return value(w[:]...) }

func pow2(n uint) *big.Int { return new(big.Int).Lsh(big.NewInt(1), n) }

// samples: each word at each of its edges, and some numbers out of a fixed seed.
func samples() []api.Num {
	edges := []uint64{0, 1, 1 << 63, most}
	var out []api.Num
	for i := range 256 {
		out = append(out, api.Num{edges[i&3], edges[i>>2&3], edges[i>>4&3], edges[i>>6]})
	}
	r := rand.New(rand.NewPCG(10, 12))
	for range 64 {
		out = append(out, api.Num{r.Uint64(), r.Uint64(), r.Uint64(), r.Uint64()})
	}
	return out
}

// pairs of all samples, each with each.
func pairs(do func(a, b api.Num)) {
	all := samples()
	for _, a := range all {
		for _, b := range all {
			do(a, b)
		}
	}
}

func TestP10AddExamples(t *testing.T) {
	for _, c := range []struct {
		a, b, sum api.Num
		over      uint64
	}{
		{api.Num{}, api.Num{}, api.Num{}, 0},
		{api.Num{2}, api.Num{3}, api.Num{5}, 0},
		{top, one, api.Num{}, 1},
		{one, top, api.Num{}, 1},
		{top, top, api.Num{most - 1, most, most, most}, 1},
		{top, api.Num{}, top, 0},
		{api.Num{most}, one, api.Num{0, 1}, 0},
		{api.Num{most, most}, one, api.Num{0, 0, 1}, 0},
		{api.Num{most, most, most}, one, api.Num{0, 0, 0, 1}, 0},
		{api.Num{3: 1 << 63}, api.Num{3: 1 << 63}, api.Num{}, 1},
		{api.Num{0, most, most, most}, api.Num{most, 0, 0, 0}, top, 0},
	} {
		if sum, over := limb.Add(c.a, c.b); sum != c.sum || over != c.over {
			t.Errorf("Add(%x, %x) = %x, %d; want %x, %d", c.a, c.b, sum, over, c.sum, c.over)
		}
	}
}

func TestP10SubExamples(t *testing.T) {
	for _, c := range []struct {
		a, b, diff api.Num
		under      uint64
	}{
		{api.Num{}, api.Num{}, api.Num{}, 0},
		{api.Num{5}, api.Num{3}, api.Num{2}, 0},
		{api.Num{}, one, top, 1},
		{api.Num{}, top, one, 1},
		{top, top, api.Num{}, 0},
		{api.Num{0, 1}, one, api.Num{most}, 0},
		{api.Num{0, 0, 0, 1}, one, api.Num{most, most, most}, 0},
		{api.Num{3}, api.Num{5}, api.Num{most - 1, most, most, most}, 1},
		{api.Num{most, most, most, 0}, api.Num{0, 0, 0, 1}, top, 1},
	} {
		if diff, under := limb.Sub(c.a, c.b); diff != c.diff || under != c.under {
			t.Errorf("Sub(%x, %x) = %x, %d; want %x, %d", c.a, c.b, diff, under, c.diff, c.under)
		}
	}
}

func TestP10MulExamples(t *testing.T) {
	for _, c := range []struct {
		a, b    api.Num
		product api.Wide
	}{
		{api.Num{}, top, api.Wide{}},
		{top, api.Num{}, api.Wide{}},
		{api.Num{6}, api.Num{7}, api.Wide{42}},
		{top, one, api.Wide{most, most, most, most}},
		{api.Num{most}, api.Num{most}, api.Wide{1, most - 1}},
		{api.Num{3: 1 << 63}, api.Num{2}, api.Wide{4: 1}},
		{api.Num{3: 1}, api.Num{3: 1}, api.Wide{6: 1}},
		{api.Num{3: 1 << 63}, api.Num{3: 1 << 63}, api.Wide{7: 1 << 62}},
		{top, top, api.Wide{1, 0, 0, 0, most - 1, most, most, most}},
	} {
		if w := limb.Mul(c.a, c.b); w != c.product {
			t.Errorf("Mul(%x, %x) = %x; want %x", c.a, c.b, w, c.product)
		}
	}
}

func TestP10CmpExamples(t *testing.T) {
	for _, c := range []struct {
		a, b api.Num
		want int
	}{
		{api.Num{}, api.Num{}, 0},
		{top, top, 0},
		{api.Num{}, one, -1},
		{one, api.Num{}, 1},
		{api.Num{9}, api.Num{0, 1}, -1},
		{api.Num{most, most, most}, api.Num{3: 1}, -1},
		{api.Num{3: 1}, api.Num{most, most, most}, 1},
		{api.Num{1, 2, 3, 4}, api.Num{2, 1, 3, 4}, 1},
		{api.Num{3: 1 << 63}, api.Num{3: 1}, 1},
	} {
		if got := limb.Cmp(c.a, c.b); got != c.want {
			t.Errorf("Cmp(%x, %x) = %d; want %d", c.a, c.b, got, c.want)
		}
	}
}

func TestP10Pairs(t *testing.T) {
	modulus := pow2(256)
	pairs(func(a, b api.Num) {
		x, y := num(a), num(b)
		sum, over := limb.Add(a, b)
		got := new(big.Int).Mul(modulus, new(big.Int).SetUint64(over))
		if got.Add(got, num(sum)); got.Cmp(new(big.Int).Add(x, y)) != 0 {
			t.Errorf("Add(%x, %x) = %x, %d", a, b, sum, over)
		}
		diff, under := limb.Sub(a, b)
		got = new(big.Int).Mul(modulus, new(big.Int).SetUint64(under))
		if got.Sub(num(diff), got); got.Cmp(new(big.Int).Sub(x, y)) != 0 {
			t.Errorf("Sub(%x, %x) = %x, %d", a, b, diff, under)
		}
		if w := limb.Mul(a, b); wide(w).Cmp(new(big.Int).Mul(x, y)) != 0 {
			t.Errorf("Mul(%x, %x) = %x", a, b, w)
		}
		if c := limb.Cmp(a, b); c != x.Cmp(y) {
			t.Errorf("Cmp(%x, %x) = %d", a, b, c)
		}
	})
}

func TestP11Bit(t *testing.T) {
	for _, a := range samples() {
		v := num(a)
		for i := range 256 {
			if got := limb.Bit(a, i); got != uint64(v.Bit(i)) {
				t.Errorf("Bit(%x, %d) = %d", a, i, got)
			}
		}
	}
}

func TestP11BitOutside(t *testing.T) {
	for _, i := range []int{-1, -63, -64, -255, -256, math.MinInt, math.MinInt + 1} {
		if got := limb.Bit(top, i); got != 0 {
			t.Errorf("Bit(top, %d) = %d; want 0", i, got)
		}
	}
	for _, i := range farInts {
		if got := limb.Bit(top, i); got != 0 {
			t.Errorf("Bit(top, %d) = %d; want 0", i, got)
		}
	}
}

func TestP11Len(t *testing.T) {
	if got := limb.Len(api.Num{}); got != 0 {
		t.Errorf("Len(0) = %d; want 0", got)
	}
	if got := limb.Len(top); got != 256 {
		t.Errorf("Len(top) = %d; want 256", got)
	}
	for n := range 256 {
		var a api.Num
		a[n/64] = 1 << (n % 64)
		if got := limb.Len(a); got != n+1 {
			t.Errorf("Len(2^%d) = %d; want %d", n, got, n+1)
		}
	}
	for _, a := range samples() {
		if got := limb.Len(a); got != num(a).BitLen() {
			t.Errorf("Len(%x) = %d", a, got)
		}
	}
}

func TestP11ShiftExamples(t *testing.T) {
	a := api.Num{5, 0, 0, 1 << 63}
	for _, c := range []struct {
		n    int
		want api.Num
	}{
		{0, a},
		{1, api.Num{10}},
		{63, api.Num{1 << 63, 2}},
		{64, api.Num{0, 5}},
		{65, api.Num{0, 10}},
		{255, api.Num{3: 1 << 63}},
		{-1, api.Num{2, 0, 0, 1 << 62}},
		{-63, api.Num{0, 0, 0, 1}},
		{-64, api.Num{0, 0, 1 << 63}},
		{-192, api.Num{1 << 63}},
		{-255, api.Num{1}},
	} {
		if got := limb.Shift(a, c.n); got != c.want {
			t.Errorf("Shift(%x, %d) = %x; want %x", a, c.n, got, c.want)
		}
	}
}

func TestP11ShiftAll(t *testing.T) {
	modulus := pow2(256)
	for _, a := range samples() {
		for n := range 256 {
			want := new(big.Int).Lsh(num(a), uint(n))
			want.Mod(want, modulus)
			if got := limb.Shift(a, n); num(got).Cmp(want) != 0 {
				t.Errorf("Shift(%x, %d) = %x", a, n, got)
			}
			want.Rsh(num(a), uint(n))
			if got := limb.Shift(a, -n); num(got).Cmp(want) != 0 {
				t.Errorf("Shift(%x, %d) = %x", a, -n, got)
			}
		}
	}
}

func TestP11ShiftOutside(t *testing.T) {
	for _, n := range farInts {
		if got := limb.Shift(top, n); got != (api.Num{}) {
			t.Errorf("Shift(top, %d) = %x; want 0", n, got)
		}
		if got := limb.Shift(top, -n); got != (api.Num{}) {
			t.Errorf("Shift(top, %d) = %x; want 0", -n, got)
		}
	}
	if got := limb.Shift(top, math.MinInt); got != (api.Num{}) {
		t.Errorf("Shift(top, MinInt) = %x; want 0", got)
	}
}

func TestP11Pick(t *testing.T) {
	even := []uint64{0, 2, 4, 1 << 32, 1 << 63, most - 1}
	for _, a := range samples() {
		b := api.Num{a[3] + 1, a[1], ^a[0], a[2]}
		for _, c := range even {
			if got := limb.Pick(c, a, b); got != a {
				t.Errorf("Pick(%d, %x, %x) = %x", c, a, b, got)
			}
			if got := limb.Pick(c+1, a, b); got != b {
				t.Errorf("Pick(%d, %x, %x) = %x", c+1, a, b, got)
			}
		}
	}
}

func TestP12BytesExamples(t *testing.T) {
	var ordered [32]byte
	for i := range ordered {
		ordered[i] = byte(i + 1)
	}
	a := api.Num{0x0807060504030201, 0x100f0e0d0c0b0a09, 0x1817161514131211, 0x201f1e1d1c1b1a19}
	if got := limb.Bytes(a); got != ordered {
		t.Errorf("Bytes(%x) = %x; want %x", a, got, ordered)
	}
	if got := limb.Of(ordered); got != a {
		t.Errorf("Of(%x) = %x; want %x", ordered, got, a)
	}
	if got := limb.Bytes(api.Num{}); got != ([32]byte{}) {
		t.Errorf("Bytes(0) = %x", got)
	}
	if got := limb.Of([32]byte{}); got != (api.Num{}) {
		t.Errorf("Of(0) = %x", got)
	}
}

func TestP12BytesAll(t *testing.T) {
	for _, a := range samples() {
		b := limb.Bytes(a)
		backwards := make([]byte, len(b))
		for i := range b {
			backwards[len(b)-1-i] = b[i]
		}
		if new(big.Int).SetBytes(backwards).Cmp(num(a)) != 0 {
			t.Errorf("Bytes(%x) = %x", a, b)
		}
		if got := limb.Of(b); got != a {
			t.Errorf("Of(%x) = %x; want %x", b, got, a)
		}
	}
}

func TestP12Halves(t *testing.T) {
	modulus := pow2(256)
	pairs(func(lo, hi api.Num) {
		w := limb.Wide(lo, hi)
		want := new(big.Int).Mul(num(hi), modulus)
		if want.Add(want, num(lo)); wide(w).Cmp(want) != 0 {
			t.Errorf("Wide(%x, %x) = %x", lo, hi, w)
		}
		if got := limb.Low(w); got != lo {
			t.Errorf("Low(%x) = %x; want %x", w, got, lo)
		}
		if got := limb.High(w); got != hi {
			t.Errorf("High(%x) = %x; want %x", w, got, hi)
		}
	})
}

func TestP12HalvesExamples(t *testing.T) {
	w := api.Wide{1, 2, 3, 4, 5, 6, 7, 8}
	if got := limb.Wide(api.Num{1, 2, 3, 4}, api.Num{5, 6, 7, 8}); got != w {
		t.Errorf("Wide = %x; want %x", got, w)
	}
	if got := limb.Low(w); got != (api.Num{1, 2, 3, 4}) {
		t.Errorf("Low = %x", got)
	}
	if got := limb.High(w); got != (api.Num{5, 6, 7, 8}) {
		t.Errorf("High = %x", got)
	}
}
