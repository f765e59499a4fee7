package scalar_test

import (
	"bytes"
	"crypto/ed25519"
	"crypto/sha256"
	"crypto/sha512"
	"math"
	"math/big"
	"math/rand/v2"
	"slices"
	"testing"

	"sealring/api"
	"sealring/curve"
	"sealring/scalar"
)

const most = math.MaxUint64

var (
	none  = api.Num{}
	one   = api.Num{1}
	two   = api.Num{2}
	top   = api.Num{most, most, most, most}
	full  = api.Wide{most, most, most, most, most, most, most, most}
	prime = api.Num{0x5812631a5cf5d3ed, 0x14def9dea2f79cd6, 0, 1 << 60}
	minus = api.Num{0x5812631a5cf5d3ec, 0x14def9dea2f79cd6, 0, 1 << 60} // -1

	// The modulus by the document's own words, not by the package.
	excess  = decimal("27742317777372353535851937790883648493")
	modulus = new(big.Int).Add(power2(252), excess)
)

func power2(n uint) *big.Int { return new(big.Int).Lsh(big.NewInt(1), n) }

func decimal(text string) *big.Int {
	v, _ := new(big.Int).SetString(text, 10)
	return v
}

func plus(a *big.Int, by int64) *big.Int { return new(big.Int).Add(a, big.NewInt(by)) }

func multiple(often int64) *big.Int { return new(big.Int).Mul(modulus, big.NewInt(often)) }

// value of words, worked out without the project's packages.
func value(words ...uint64) *big.Int {
	v := new(big.Int)
	for i := len(words) - 1; i >= 0; i-- {
		v.Lsh(v, 64)
		v.Or(v, new(big.Int).SetUint64(words[i]))
	}
	return v
}

func num(a api.Num) *big.Int   { return value(a[:]...) }
func wide(w api.Wide) *big.Int { return value(w[:]...) }

func word(v *big.Int, i int) uint64 { return new(big.Int).Rsh(v, uint(64*i)).Uint64() }

func numOf(v *big.Int) api.Num {
	var a api.Num
	for i := range a {
		a[i] = word(v, i)
	}
	return a
}

func wideOf(v *big.Int) api.Wide {
	var w api.Wide
	for i := range w {
		w[i] = word(v, i)
	}
	return w
}

// valueOf bytes, the least first.
func valueOf(b []byte) *big.Int {
	turned := slices.Clone(b)
	slices.Reverse(turned)
	return new(big.Int).SetBytes(turned)
}

func mod(v *big.Int) *big.Int { return new(big.Int).Mod(v, modulus) }

func drawn(seed uint64, count int) []api.Num {
	r := rand.New(rand.NewPCG(15, seed))
	out := make([]api.Num, count)
	for i := range out {
		out[i] = api.Num{r.Uint64(), r.Uint64(), r.Uint64(), r.Uint64()}
	}
	return out
}

// nearMultiples: all numbers within 4 of a multiple of L or of 2^252; 2^256 - 1 is among them.
func nearMultiples() []api.Num {
	var out []api.Num
	for often := range int64(17) {
		for _, center := range []*big.Int{multiple(often), new(big.Int).Mul(power2(252), big.NewInt(often))} {
			for by := int64(-4); by <= 4; by++ {
				if v := plus(center, by); v.Sign() >= 0 && v.BitLen() <= 256 {
					out = append(out, numOf(v))
				}
			}
		}
	}
	return out
}

// eachBit: each power of 2, and the numbers beside it.
func eachBit() []api.Num {
	var out []api.Num
	for i := range uint(256) {
		for by := int64(-1); by <= 1; by++ {
			out = append(out, numOf(plus(power2(i), by)))
		}
	}
	return out
}

// samples: numbers beside multiples, each word at each of its edges, and drawn ones.
func samples() []api.Num {
	out := nearMultiples()
	edges := []uint64{0, 1, most}
	for i := range 81 {
		out = append(out, api.Num{edges[i%3], edges[i/3%3], edges[i/9%3], edges[i/27]})
	}
	return append(out, drawn(1, 30)...)
}

// singles: what the calls of one argument are asked with.
func singles() []api.Num {
	return append(append(samples(), eachBit()...), drawn(2, 500)...)
}

// check that got is want modulo L, and below L.
func check(t *testing.T, name string, got api.Num, want *big.Int, args ...any) {
	t.Helper()
	if num(got).Cmp(mod(want)) != 0 {
		t.Errorf("%s%x = %x; want %x", name, args, got, mod(want))
	}
}

func checkPair(t *testing.T, a, b api.Num) {
	t.Helper()
	check(t, "Add", scalar.Add(a, b), new(big.Int).Add(num(a), num(b)), a, b)
	check(t, "Mul", scalar.Mul(a, b), new(big.Int).Mul(num(a), num(b)), a, b)
}

func checkWide(t *testing.T, v *big.Int) {
	t.Helper()
	if v.Sign() >= 0 && v.BitLen() <= 512 {
		check(t, "Reduce", scalar.Reduce(wideOf(v)), v, v)
	}
}

func TestP150Modulus(t *testing.T) {
	if got := scalar.L(); num(got).Cmp(modulus) != 0 || got != prime {
		t.Errorf("L = %x; want %x", got, modulus)
	}
	if !num(scalar.L()).ProbablyPrime(20) {
		t.Error("L is not prime")
	}
}

func TestP150BaseSoOftenIsZero(t *testing.T) {
	for i, c := range []struct {
		n    api.Num
		want api.Point
	}{
		{scalar.L(), curve.Zero()},
		{scalar.Add(minus, two), curve.Base()},
		{scalar.Mul(two, scalar.Inv(two)), curve.Base()},
	} {
		if got, e := curve.Times(c.n, curve.Base()); got != c.want || e != api.OK {
			t.Errorf("%d: Base %x times = %x, %v", i, c.n, got, e)
		}
	}
}

func TestP150Examples(t *testing.T) {
	beyond := numOf(plus(modulus, 1))
	for i, c := range []struct{ got, want api.Num }{
		{scalar.Low(none), none},
		{scalar.Low(one), one},
		{scalar.Low(minus), minus},
		{scalar.Low(prime), none},
		{scalar.Low(beyond), one},
		{scalar.Low(numOf(multiple(15))), none},
		{scalar.Low(numOf(plus(multiple(15), -1))), minus},
		{scalar.Low(api.Num{3: 1 << 60}), numOf(new(big.Int).Sub(modulus, excess))},
		{scalar.Reduce(api.Wide{}), none},
		{scalar.Reduce(api.Wide{7}), api.Num{7}},
		{scalar.Reduce(wideOf(num(minus))), minus},
		{scalar.Reduce(wideOf(modulus)), none},
		{scalar.Reduce(wideOf(num(beyond))), one},
		{scalar.Reduce(wideOf(new(big.Int).Mul(modulus, modulus))), none},
		{scalar.Reduce(wideOf(plus(new(big.Int).Mul(modulus, modulus), -1))), minus},
		{scalar.Add(none, none), none},
		{scalar.Add(two, api.Num{3}), api.Num{5}},
		{scalar.Add(minus, one), none},
		{scalar.Add(minus, two), one},
		{scalar.Add(minus, minus), numOf(plus(modulus, -2))},
		{scalar.Add(prime, prime), none},
		{scalar.Add(beyond, beyond), two},
		{scalar.Neg(none), none},
		{scalar.Neg(prime), none},
		{scalar.Neg(numOf(multiple(15))), none},
		{scalar.Neg(one), minus},
		{scalar.Neg(minus), one},
		{scalar.Neg(beyond), minus},
		{scalar.Mul(two, api.Num{3}), api.Num{6}},
		{scalar.Mul(none, top), none},
		{scalar.Mul(top, prime), none},
		{scalar.Mul(minus, minus), one},
		{scalar.Mul(minus, beyond), minus},
		{scalar.Inv(none), none},
		{scalar.Inv(prime), none},
		{scalar.Inv(numOf(multiple(15))), none},
		{scalar.Inv(one), one},
		{scalar.Inv(beyond), one},
		{scalar.Inv(minus), minus},
		{scalar.Inv(two), numOf(new(big.Int).Rsh(plus(modulus, 1), 1))},
	} {
		if c.got != c.want {
			t.Errorf("example %d: %x; want %x", i, c.got, c.want)
		}
	}
}

func TestP150Low(t *testing.T) {
	for _, a := range singles() {
		check(t, "Low", scalar.Low(a), num(a), a)
	}
}

func TestP150Neg(t *testing.T) {
	for _, a := range singles() {
		got := scalar.Neg(a)
		check(t, "Neg", got, new(big.Int).Neg(num(a)), a)
		if sum := scalar.Add(a, got); sum != none {
			t.Errorf("%x and its Neg make %x; want 0", a, sum)
		}
	}
}

func TestP150Pairs(t *testing.T) {
	all := samples()
	for _, a := range all {
		for _, b := range all {
			checkPair(t, a, b)
		}
	}
}

func TestP150EachBitByEachBit(t *testing.T) {
	for i := range uint(256) {
		for j := range uint(256) {
			checkPair(t, numOf(power2(i)), numOf(power2(j)))
			checkPair(t, numOf(plus(power2(i), -1)), numOf(plus(power2(j), -1)))
		}
	}
}

func TestP150DrawnPairs(t *testing.T) {
	all := drawn(3, 20000)
	for i := 1; i < len(all); i += 2 {
		checkPair(t, all[i-1], all[i])
	}
}

// Products that are beside a multiple of L are few: b is worked out so that a * b is one.
func TestP150ProductsBesideMultiples(t *testing.T) {
	for i, a := range drawn(4, 800) {
		inverse := new(big.Int).ModInverse(mod(num(a)), modulus)
		for _, small := range []int64{int64(i), int64(i % 5), -int64(i % 5)} {
			b := mod(new(big.Int).Mul(inverse, big.NewInt(small)))
			checkPair(t, a, numOf(b))
			checkPair(t, a, numOf(b.Add(b, multiple(int64(i%15)))))
		}
	}
}

func TestP150ReduceWordEdges(t *testing.T) {
	edges := []uint64{0, 1, most}
	for i := range 6561 {
		var w api.Wide
		for j, left := 0, i; j < len(w); j, left = j+1, left/3 {
			w[j] = edges[left%3]
		}
		check(t, "Reduce", scalar.Reduce(w), wide(w), w)
	}
}

func TestP150ReduceEachBit(t *testing.T) {
	for i := range uint(513) {
		for by := int64(-2); by <= 2; by++ {
			checkWide(t, plus(power2(i), by))
			checkWide(t, plus(new(big.Int).Sub(wide(full), power2(i)), by))
		}
	}
}

func TestP150ReduceBesideMultiples(t *testing.T) {
	most := new(big.Int).Div(wide(full), modulus)
	for i := range uint(261) {
		for _, often := range []*big.Int{power2(i), plus(power2(i), -1), new(big.Int).Sub(most, power2(i)), new(big.Int).Rsh(most, i)} {
			center := new(big.Int).Mul(often, modulus)
			for by := int64(-2); by <= 2; by++ {
				checkWide(t, plus(center, by))
			}
		}
	}
}

// What stands above 2^256 is beside a place where its product with 16 * (L - 2^252) goes over to one more 2^256: the halves of such products are at their edges.
func TestP150ReduceBesideOvers(t *testing.T) {
	lack := new(big.Int).Lsh(excess, 4)
	greatest := new(big.Int).Rsh(new(big.Int).Mul(lack, lack), 256)
	for i, over := range drawn(5, 400) {
		often := new(big.Int).Mod(num(over), lack)
		switch i % 4 {
		case 1:
			often = big.NewInt(int64(i))
		case 2:
			often = plus(lack, -int64(i/4))
		case 3:
			// So often that the product of that is itself beside 2^256.
			often = new(big.Int).Mul(greatest, power2(256))
			often = plus(often.Div(often, lack), int64(i/4-50))
		}
		high := new(big.Int).Div(often.Lsh(often, 256), lack)
		for by := int64(-1); by <= 2; by++ {
			for _, low := range []api.Num{none, one, minus, prime, top, over} {
				checkWide(t, new(big.Int).Add(num(low), new(big.Int).Lsh(plus(high, by), 256)))
			}
		}
	}
}

func TestP150ReduceDrawn(t *testing.T) {
	all := drawn(6, 20000)
	for i := 1; i < len(all); i += 2 {
		v := new(big.Int).Lsh(num(all[i]), 256)
		v.Or(v, num(all[i-1]))
		checkWide(t, v.Rsh(v, uint(i%512)))
	}
}

func TestP150Inv(t *testing.T) {
	for _, a := range singles() {
		want := new(big.Int)
		if left := mod(num(a)); left.Sign() != 0 {
			want.ModInverse(left, modulus)
		}
		got := scalar.Inv(a)
		check(t, "Inv", got, want, a)
		if product := scalar.Mul(a, got); want.Sign() != 0 && product != one {
			t.Errorf("%x times its Inv = %x; want 1", a, product)
		}
	}
}

// Go's own signatures are r + c * s modulo the same L, with digests of 64 bytes.
func TestP150AsOtherSignaturesHaveIt(t *testing.T) {
	for i := range 50 {
		seed := sha256.Sum256([]byte{byte(i)})
		text := bytes.Repeat([]byte{byte(i)}, i)
		key := ed25519.NewKeyFromSeed(seed[:])
		sig := ed25519.Sign(key, text)
		h := sha512.Sum512(seed[:])
		h[0] &= 248
		h[31] = h[31]&63 | 64
		secret := numOf(valueOf(h[:32]))
		r := digest512(t, h[32:], text)
		c := digest512(t, sig[:32], key[32:], text)
		if got := scalar.Add(r, scalar.Mul(c, secret)); num(got).Cmp(valueOf(sig[32:])) != 0 {
			t.Errorf("signature %d: %x; want %x", i, got, sig[32:])
		}
	}
}

func digest512(t *testing.T, parts ...[]byte) api.Num {
	t.Helper()
	d := sha512.Sum512(bytes.Join(parts, nil))
	a, e := scalar.Of(d[:])
	if e != api.OK {
		t.Fatalf("Of(%x): %v", d, e)
	}
	return a
}

func checkOf(t *testing.T, b []byte) {
	t.Helper()
	got, e := scalar.Of(b)
	if e != api.OK {
		t.Errorf("Of(%x): %v", b, e)
	}
	check(t, "Of", got, valueOf(b), b)
}

func TestP151OfExamples(t *testing.T) {
	for i, c := range []struct {
		b    []byte
		want api.Num
	}{
		{nil, none},
		{[]byte{}, none},
		{[]byte{0}, none},
		{[]byte{7}, api.Num{7}},
		{[]byte{1, 2}, api.Num{513}},
		{[]byte{0, 0, 0, 0, 0, 0, 0, 0, 5}, api.Num{1: 5}},
		{make([]byte, 64), none},
		{append([]byte{3}, make([]byte, 63)...), api.Num{3}},
	} {
		if got, e := scalar.Of(c.b); got != c.want || e != api.OK {
			t.Errorf("example %d: Of(%x) = %x, %v; want %x", i, c.b, got, e, c.want)
		}
	}
}

func TestP151OfEachLength(t *testing.T) {
	r := rand.New(rand.NewPCG(15, 7))
	for n := range 65 {
		checkOf(t, bytes.Repeat([]byte{255}, n))
		checkOf(t, make([]byte, n))
		for range 20 {
			b := make([]byte, n)
			for i := range b {
				b[i] = byte(r.Uint32())
			}
			checkOf(t, b)
		}
	}
}

func TestP151OfEachByte(t *testing.T) {
	for place := range 64 {
		for _, x := range []byte{1, 127, 128, 255} {
			b := make([]byte, 64)
			b[place] = x
			checkOf(t, b)
			checkOf(t, b[:place+1])
		}
	}
}

func TestP151OfTooMany(t *testing.T) {
	for _, n := range []int{65, 66, 96, 128, 1000, 65536} {
		for _, b := range [][]byte{make([]byte, n), bytes.Repeat([]byte{1}, n), bytes.Repeat([]byte{255}, n)} {
			if got, e := scalar.Of(b); got != none || e != api.ErrLarge {
				t.Errorf("Of %d bytes = %x, %v; want ErrLarge alone", n, got, e)
			}
		}
	}
}

// digestOf by the document's words.
func digestOf(label byte, p []byte) *big.Int {
	low := sha256.Sum256(append([]byte{label, 0}, p...))
	high := sha256.Sum256(append([]byte{label, 1}, p...))
	return valueOf(append(low[:], high[:]...))
}

func TestP151DigestEachLabel(t *testing.T) {
	for label := range 256 {
		for _, p := range [][]byte{nil, {}, {0}, {1}, {byte(label)}, []byte("abc"), make([]byte, 32)} {
			check(t, "Digest", scalar.Digest(byte(label), p), digestOf(byte(label), p), label, p)
		}
	}
}

func TestP151DigestEachLength(t *testing.T) {
	r := rand.New(rand.NewPCG(15, 8))
	for n := range 300 {
		p := make([]byte, n)
		for i := range p {
			p[i] = byte(r.Uint32())
		}
		check(t, "Digest", scalar.Digest(byte(n), p), digestOf(byte(n), p), n, p)
	}
	long := bytes.Repeat([]byte("sealring"), 1<<15)
	check(t, "Digest", scalar.Digest(4, long), digestOf(4, long), "many bytes")
}

// What stands ahead of p belongs to it: none of these is the digest of another.
func TestP151DigestsAreApart(t *testing.T) {
	seen := map[api.Num]int{}
	for i, a := range []api.Num{
		scalar.Digest(0, nil),
		scalar.Digest(1, nil),
		scalar.Digest(0, []byte{0}),
		scalar.Digest(0, []byte{1}),
		scalar.Digest(1, []byte{0}),
		scalar.Digest(1, []byte{1}),
		scalar.Digest(0, []byte{0, 0}),
		scalar.Digest(0, []byte{0, 1}),
	} {
		if before, ok := seen[a]; ok {
			t.Errorf("digests %d and %d are both %x", before, i, a)
		}
		seen[a] = i
	}
}

// withRoom: p with more behind it, and all of that memory.
func withRoom(p []byte) ([]byte, []byte) {
	all := append(slices.Clone(p), bytes.Repeat([]byte{170}, 100)...)
	return all[:len(p)], all
}

func TestP2ListsStayAndRoomIsNotRead(t *testing.T) {
	for _, n := range []int{0, 1, 31, 32, 33, 63, 64, 65, 200} {
		p, all := withRoom(bytes.Repeat([]byte{9}, n))
		before := slices.Clone(all)
		digest := scalar.Digest(5, p)
		number, e := scalar.Of(p)
		if !bytes.Equal(all, before) {
			t.Errorf("%d bytes, or the room behind them, are changed", n)
		}
		alone := slices.Clip(slices.Clone(p))
		if again, e2 := scalar.Of(alone); again != number || e2 != e || scalar.Digest(5, alone) != digest {
			t.Errorf("of %d bytes something else is told with room behind them", n)
		}
	}
}

type answers struct {
	l, low, reduce, add, neg, mul, inv, of, digest api.Num
	e                                              api.Errno
}

func askAll(a, b api.Num) answers {
	p := []byte{byte(a[0]), byte(b[1]), byte(a[3])}
	of, e := scalar.Of(p)
	w := api.Wide{a[0], a[1], a[2], a[3], b[0], b[1], b[2], b[3]}
	return answers{scalar.L(), scalar.Low(a), scalar.Reduce(w), scalar.Add(a, b), scalar.Neg(a), scalar.Mul(a, b), scalar.Inv(a), of, scalar.Digest(p[0], p), e}
}

func TestP2AskedAgain(t *testing.T) {
	all := append(nearMultiples()[:20], drawn(9, 20)...)
	var first []answers
	for i, a := range all {
		first = append(first, askAll(a, all[len(all)-1-i]))
	}
	for i := len(all) - 1; i >= 0; i-- {
		if again := askAll(all[i], all[len(all)-1-i]); again != first[i] {
			t.Errorf("asked again with %x: %v; want %v", all[i], again, first[i])
		}
	}
}

func TestP2AnswersAreApart(t *testing.T) {
	l := scalar.L()
	l[0], l[3] = 7, 0
	if got := scalar.L(); got != prime {
		t.Errorf("L = %x behind a change of what it answered", got)
	}
	if got := scalar.Low(prime); got != none {
		t.Errorf("Low(L) = %x behind a change of what L answered", got)
	}
}
