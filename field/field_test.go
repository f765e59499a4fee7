package field_test

import (
	"math"
	"math/big"
	"math/rand/v2"
	"testing"

	"sealring/api"
	"sealring/field"
)

const most = math.MaxUint64

var (
	none  = api.Num{}
	one   = api.Num{1}
	two   = api.Num{2}
	top   = api.Num{most, most, most, most}
	prime = api.Num{most - 18, most, most, most >> 1}
	minus = api.Num{most - 19, most, most, most >> 1} // -1
	twice = api.Num{most - 37, most, most, most}      // 2P

	// The modulus by its own words, not by the package.
	modulus = less(power2(255), 19)
)

func power2(n uint) *big.Int { return new(big.Int).Lsh(big.NewInt(1), n) }

func less(a *big.Int, by int64) *big.Int { return new(big.Int).Sub(a, big.NewInt(by)) }

// num is the number of the words of a, worked out without the project's packages.
func num(a api.Num) *big.Int {
	v := new(big.Int)
	for i := len(a) - 1; i >= 0; i-- {
		v.Lsh(v, 64)
		v.Or(v, new(big.Int).SetUint64(a[i]))
	}
	return v
}

func numOf(v *big.Int) api.Num {
	var a api.Num
	for i := range a {
		a[i] = new(big.Int).Rsh(v, uint(64*i)).Uint64()
	}
	return a
}

func mod(v *big.Int) *big.Int { return new(big.Int).Mod(v, modulus) }

func drawn(seed uint64, count int) []api.Num {
	r := rand.New(rand.NewPCG(13, seed))
	out := make([]api.Num, count)
	for i := range out {
		out[i] = api.Num{r.Uint64(), r.Uint64(), r.Uint64(), r.Uint64()}
	}
	return out
}

// nearMultiples: all numbers within 40 of 0, P and 2P; 2^255 and 2^256 - 1 are among them.
func nearMultiples() []api.Num {
	var out []api.Num
	for often := range int64(3) {
		center := new(big.Int).Mul(modulus, big.NewInt(often))
		for by := int64(-40); by <= 40; by++ {
			if v := less(center, by); v.Sign() >= 0 && v.BitLen() <= 256 {
				out = append(out, numOf(v))
			}
		}
	}
	return out
}

// eachBit: each power of 2, and the numbers beside it.
func eachBit() []api.Num {
	var out []api.Num
	for i := range uint(256) {
		for by := int64(-1); by <= 1; by++ {
			out = append(out, numOf(less(power2(i), by)))
		}
	}
	return out
}

// samples: numbers beside the multiples of P, each word at each of its edges, and drawn ones.
func samples() []api.Num {
	out := nearMultiples()
	edges := []uint64{0, 1, 1 << 63, most}
	for i := range 256 {
		out = append(out, api.Num{edges[i&3], edges[i>>2&3], edges[i>>4&3], edges[i>>6]})
	}
	return append(out, drawn(1, 50)...)
}

// singles: what the calls of one argument are asked with.
func singles() []api.Num {
	return append(append(samples(), eachBit()...), drawn(2, 500)...)
}

// check that got is want modulo P, and below P.
func check(t *testing.T, name string, got api.Num, want *big.Int, args ...api.Num) {
	t.Helper()
	if num(got).Cmp(mod(want)) != 0 {
		t.Errorf("%s%x = %x; want %x", name, args, got, mod(want))
	}
}

func checkPair(t *testing.T, a, b api.Num) {
	t.Helper()
	check(t, "Add", field.Add(a, b), new(big.Int).Add(num(a), num(b)), a, b)
	check(t, "Sub", field.Sub(a, b), new(big.Int).Sub(num(a), num(b)), a, b)
	check(t, "Mul", field.Mul(a, b), new(big.Int).Mul(num(a), num(b)), a, b)
}

func TestP130Modulus(t *testing.T) {
	if got := field.P(); num(got).Cmp(modulus) != 0 || got != prime {
		t.Errorf("P = %x; want 2^255 - 19", got)
	}
}

func TestP130Examples(t *testing.T) {
	beyond := api.Num{most - 17, most, most, most >> 1} // P + 1
	for i, c := range []struct{ got, want api.Num }{
		{field.Low(none), none},
		{field.Low(one), one},
		{field.Low(minus), minus},
		{field.Low(prime), none},
		{field.Low(beyond), one},
		{field.Low(api.Num{most, most, most, most >> 1}), api.Num{18}},
		{field.Low(api.Num{3: 1 << 63}), api.Num{19}},
		{field.Low(api.Num{most - 38, most, most, most}), minus},
		{field.Low(twice), none},
		{field.Low(top), api.Num{37}},
		{field.Add(none, none), none},
		{field.Add(two, api.Num{3}), api.Num{5}},
		{field.Add(minus, one), none},
		{field.Add(minus, two), one},
		{field.Add(minus, minus), api.Num{most - 20, most, most, most >> 1}},
		{field.Add(prime, prime), none},
		{field.Add(twice, twice), none},
		{field.Add(top, one), api.Num{38}},
		{field.Add(top, top), api.Num{74}},
		{field.Sub(api.Num{5}, two), api.Num{3}},
		{field.Sub(none, none), none},
		{field.Sub(none, one), minus},
		{field.Sub(none, prime), none},
		{field.Sub(none, twice), none},
		{field.Sub(prime, minus), one},
		{field.Sub(top, top), none},
		{field.Sub(none, top), api.Num{most - 55, most, most, most >> 1}},
		{field.Mul(two, api.Num{3}), api.Num{6}},
		{field.Mul(none, top), none},
		{field.Mul(top, prime), none},
		{field.Mul(twice, twice), none},
		{field.Mul(one, top), api.Num{37}},
		{field.Mul(minus, minus), one},
		{field.Mul(minus, beyond), minus},
		{field.Mul(top, top), api.Num{37 * 37}},
		{field.Mul(api.Num{2: 1}, api.Num{2: 1}), api.Num{38}},
		{field.Mul(api.Num{3: 1 << 63}, api.Num{3: 1 << 63}), api.Num{361}},
	} {
		if c.got != c.want {
			t.Errorf("example %d: %x; want %x", i, c.got, c.want)
		}
	}
}

func TestP130Low(t *testing.T) {
	for _, a := range singles() {
		check(t, "Low", field.Low(a), num(a), a)
	}
}

func TestP130Pairs(t *testing.T) {
	all := samples()
	for _, a := range all {
		for _, b := range all {
			checkPair(t, a, b)
		}
	}
}

func TestP130EachBitByEachBit(t *testing.T) {
	for i := range uint(256) {
		for j := range uint(256) {
			checkPair(t, numOf(power2(i)), numOf(power2(j)))
			checkPair(t, numOf(less(power2(i), 1)), numOf(less(power2(j), 1)))
		}
	}
}

func TestP130DrawnPairs(t *testing.T) {
	all := drawn(3, 40000)
	for i := 1; i < len(all); i += 2 {
		checkPair(t, all[i-1], all[i])
	}
}

// What is left of a product when 38 is put for 2^256 comes close to a multiple of 2^256 for few factors alone: those whose product is small modulo 2P.
func TestP130ProductsNearMultiples(t *testing.T) {
	double := new(big.Int).Lsh(modulus, 1)
	for i, a := range drawn(4, 1600) {
		a[0] |= 1
		inverse := new(big.Int).ModInverse(num(a), double)
		for _, small := range []int64{int64(i), int64(i % 80), -int64(i % 80)} {
			b := new(big.Int).Mul(inverse, big.NewInt(small))
			checkPair(t, a, numOf(b.Mod(b, double)))
		}
		beside := new(big.Int).Add(modulus, big.NewInt(int64(i-800)))
		b := beside.Mul(beside, inverse)
		checkPair(t, a, numOf(b.Mod(b, double)))
	}
}

func TestP131Examples(t *testing.T) {
	half := numOf(less(power2(254), 9)) // (P + 1) / 2
	for i, c := range []struct{ a, want api.Num }{
		{none, none},
		{prime, none},
		{twice, none},
		{one, one},
		{api.Num{most - 17, most, most, most >> 1}, one},
		{api.Num{most - 36, most, most, most}, one},
		{minus, minus},
		{api.Num{most - 38, most, most, most}, minus},
		{two, half},
		{half, two},
	} {
		if got := field.Inv(c.a); got != c.want {
			t.Errorf("example %d: Inv(%x) = %x; want %x", i, c.a, got, c.want)
		}
	}
}

func TestP131All(t *testing.T) {
	for _, a := range singles() {
		want := new(big.Int)
		if left := mod(num(a)); left.Sign() != 0 {
			want.ModInverse(left, modulus)
		}
		got := field.Inv(a)
		check(t, "Inv", got, want, a)
		check(t, "Inv of Inv", field.Inv(got), num(a), a)
		if product := field.Mul(a, got); want.Sign() != 0 && product != one {
			t.Errorf("%x times its Inv = %x; want 1", a, product)
		}
	}
}

func TestP132Examples(t *testing.T) {
	for i, c := range []struct {
		a, root api.Num
		ok      bool
	}{
		{none, none, true},
		{prime, none, true},
		{twice, none, true},
		{one, minus, true},
		{api.Num{most - 17, most, most, most >> 1}, minus, true}, // P + 1
		{api.Num{most - 36, most, most, most}, minus, true},      // 2P + 1
		{api.Num{4}, two, true},
		{api.Num{9}, api.Num{most - 21, most, most, most >> 1}, true},
		{api.Num{16}, api.Num{4}, true},
		{api.Num{2: 1}, api.Num{1: 1}, true},
		{api.Num{3: 1 << 62}, api.Num{1: 1 << 63}, true},
		{two, none, false},
		{api.Num{8}, none, false},
		{api.Num{18}, none, false},
		{api.Num{most - 20, most, most, most >> 1}, none, false}, // -2
		{api.Num{most - 16, most, most, most >> 1}, none, false}, // P + 2
		{api.Num{most - 35, most, most, most}, none, false},      // 2P + 2
	} {
		if root, ok := field.Sqrt(c.a); root != c.root || ok != c.ok {
			t.Errorf("example %d: Sqrt(%x) = %x, %t; want %x, %t", i, c.a, root, ok, c.root, c.ok)
		}
	}
}

// checkRoot by the promise's own words, which leave one answer alone; whether there is a root is told by Jacobi's sign.
func checkRoot(t *testing.T, a api.Num) {
	t.Helper()
	root, ok := field.Sqrt(a)
	if want := big.Jacobi(mod(num(a)), modulus) >= 0; ok != want {
		t.Errorf("Sqrt(%x) = %x, %t; want %t", a, root, ok, want)
		return
	}
	if !ok {
		if root != none {
			t.Errorf("Sqrt(%x) = %x beside false; want 0", a, root)
		}
		return
	}
	square := new(big.Int).Mul(num(root), num(root))
	if mod(square).Cmp(mod(num(a))) != 0 || num(root).Cmp(modulus) >= 0 || root[0]%2 != 0 {
		t.Errorf("Sqrt(%x) = %x; want the even root below P", a, root)
	}
}

func TestP132All(t *testing.T) {
	for _, a := range singles() {
		checkRoot(t, a)
	}
}

func TestP132SmallOnesAndTheirNegatives(t *testing.T) {
	for n := range int64(1000) {
		checkRoot(t, api.Num{uint64(n)})
		checkRoot(t, numOf(less(modulus, n)))
	}
}

// Of a and -a one is even: that one is the root of their square, whichever of them was taken. Twice a square is none, as 2 is none.
func TestP132Squares(t *testing.T) {
	for _, a := range singles() {
		left := mod(num(a))
		square := mod(new(big.Int).Mul(left, left))
		even := left
		if left.Bit(0) == 1 {
			even = new(big.Int).Sub(modulus, left)
		}
		if root, ok := field.Sqrt(numOf(square)); !ok || num(root).Cmp(even) != 0 {
			t.Errorf("Sqrt(%x) = %x, %t; want %x", square, root, ok, even)
		}
		double := mod(new(big.Int).Lsh(square, 1))
		if root, ok := field.Sqrt(numOf(double)); square.Sign() != 0 && (ok || root != none) {
			t.Errorf("Sqrt(%x) = %x, %t; want none", double, root, ok)
		}
	}
}

// The power (P - 1) / 4 of a square is 1 or -1, and the two kinds have their roots by different ways: numbers of both must be among those that are asked.
func TestP132BothKindsOfSquares(t *testing.T) {
	quarter := new(big.Int).Rsh(modulus, 2)
	kinds := map[string]int{}
	for _, a := range drawn(5, 200) {
		square := mod(new(big.Int).Mul(num(a), num(a)))
		kinds[new(big.Int).Exp(square, quarter, modulus).String()]++
		checkRoot(t, numOf(square))
	}
	if len(kinds) != 2 || kinds["1"] < 20 || kinds[less(modulus, 1).String()] < 20 {
		t.Errorf("the squares are of the kinds %v", kinds)
	}
}

func TestP132AboveP(t *testing.T) {
	for n := range int64(38) {
		low, lowOk := field.Sqrt(api.Num{uint64(n)})
		for often := int64(1); often <= 2; often++ {
			a := new(big.Int).Mul(modulus, big.NewInt(often))
			a.Add(a, big.NewInt(n))
			if root, ok := field.Sqrt(numOf(a)); root != low || ok != lowOk {
				t.Errorf("Sqrt(%d * P + %d) = %x, %t; want %x, %t", often, n, root, ok, low, lowOk)
			}
		}
	}
}

type answers struct {
	p, low, add, sub, mul, inv, root api.Num
	ok                               bool
}

func askAll(a, b api.Num) answers {
	root, ok := field.Sqrt(a)
	return answers{field.P(), field.Low(a), field.Add(a, b), field.Sub(a, b), field.Mul(a, b), field.Inv(a), root, ok}
}

func TestP2AskedAgain(t *testing.T) {
	all := append(nearMultiples()[:20], drawn(6, 20)...)
	var first []answers
	for i, a := range all {
		first = append(first, askAll(a, all[len(all)-1-i]))
	}
	for i := len(all) - 1; i >= 0; i-- {
		if again := askAll(all[i], all[len(all)-1-i]); again != first[i] {
			t.Errorf("asked again with %x: %v; want %v", all[i], again, first[i])
		}
	}
}

func TestP2AnswersAreApart(t *testing.T) {
	p := field.P()
	p[0], p[3] = 7, 0
	if got := field.P(); got != prime {
		t.Errorf("P = %x behind a change of what it answered", got)
	}
	a := top
	low := field.Low(a)
	low[3] = 5
	if a != top || field.Low(a) != (api.Num{37}) {
		t.Errorf("Low changed %x, or answers %x", a, field.Low(a))
	}
}
