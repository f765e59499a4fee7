package curve_test

import (
	"crypto/ed25519"
	"crypto/sha512"
	"encoding/hex"
	"math"
	"math/big"
	"math/rand/v2"
	"testing"

	"sealring/api"
	"sealring/curve"
)

const most = math.MaxUint64

var (
	none  = api.Num{}
	one   = api.Num{1}
	top   = api.Num{most, most, most, most}
	prime = api.Num{most - 18, most, most, most >> 1}
	minus = api.Num{most - 19, most, most, most >> 1} // -1

	nowhere = api.Point{}
	zero    = api.Point{Y: one}

	// The numbers of the document, worked out by its own words and not by the project's packages.
	modulus = new(big.Int).Sub(power2(255), big.NewInt(19))
	factor  = mod(over(big.NewInt(-121665), big.NewInt(121666)))
	often   = plus(power2(252), decimal("27742317777372353535851937790883648493")) // L: so often Base makes Zero
)

func power2(n uint) *big.Int { return new(big.Int).Lsh(big.NewInt(1), n) }

func decimal(text string) *big.Int {
	v, _ := new(big.Int).SetString(text, 10)
	return v
}

func plus(a, b *big.Int) *big.Int { return new(big.Int).Add(a, b) }

func less(a, b *big.Int) *big.Int { return new(big.Int).Sub(a, b) }

func mod(v *big.Int) *big.Int { return new(big.Int).Mod(v, modulus) }

// product of all of them, modulo P.
func product(all ...*big.Int) *big.Int {
	v := big.NewInt(1)
	for _, a := range all {
		v = mod(v.Mul(v, a))
	}
	return v
}

func over(a, b *big.Int) *big.Int { return product(a, new(big.Int).ModInverse(mod(b), modulus)) }

func num(a api.Num) *big.Int {
	v := new(big.Int)
	for i := len(a) - 1; i >= 0; i-- {
		v.Lsh(v, 64)
		v.Or(v, new(big.Int).SetUint64(a[i]))
	}
	return v
}

func numOf(v *big.Int) api.Num {
	var a api.Num
	for i := range a {
		a[i] = new(big.Int).Rsh(v, uint(64*i)).Uint64()
	}
	return a
}

func pointOf(x, y *big.Int) api.Point { return api.Point{X: numOf(mod(x)), Y: numOf(mod(y))} }

func drawn(seed uint64, count int) []api.Num {
	r := rand.New(rand.NewPCG(14, seed))
	out := make([]api.Num, count)
	for i := range out {
		out[i] = api.Num{r.Uint64(), r.Uint64(), r.Uint64(), r.Uint64()}
	}
	return out
}

// isOn by the document's equation.
func isOn(p api.Point) bool {
	x, y := num(p.X), num(p.Y)
	if x.Cmp(modulus) >= 0 || y.Cmp(modulus) >= 0 {
		return false
	}
	left := mod(less(product(y, y), product(x, x)))
	right := mod(plus(big.NewInt(1), product(factor, x, x, y, y)))
	return left.Cmp(right) == 0
}

func negOf(p api.Point) api.Point { return pointOf(new(big.Int).Neg(num(p.X)), num(p.Y)) }

// sumOf two by the document's quotients.
func sumOf(p, q api.Point) api.Point {
	a, b, c, e := num(p.X), num(p.Y), num(q.X), num(q.Y)
	part := product(factor, a, b, c, e)
	x := over(plus(product(a, e), product(b, c)), plus(big.NewInt(1), part))
	y := over(plus(product(b, e), product(a, c)), less(big.NewInt(1), part))
	return pointOf(x, y)
}

// timesOf n and p, from the least bit up.
func timesOf(n *big.Int, p api.Point) api.Point {
	total := zero
	for i := range n.BitLen() {
		if n.Bit(i) == 1 {
			total = sumOf(total, p)
		}
		p = sumOf(p, p)
	}
	return total
}

func packOf(p api.Point) [32]byte {
	var b [32]byte
	num(p.Y).FillBytes(b[:])
	for i := range 16 {
		b[i], b[31-i] = b[31-i], b[i]
	}
	if p.X[0]%2 == 1 {
		b[31] += 128
	}
	return b
}

// withY: the point with this Y and an even X, if there is one.
func withY(y *big.Int) (api.Point, bool) {
	yy := product(y, y)
	x := over(less(yy, big.NewInt(1)), plus(big.NewInt(1), product(factor, yy)))
	if big.Jacobi(x, modulus) < 0 {
		return nowhere, false
	}
	x.ModSqrt(x, modulus)
	if x.Bit(0) == 1 {
		x = less(modulus, x)
	}
	return pointOf(x, y), true
}

func base() api.Point {
	p, _ := withY(over(big.NewInt(4), big.NewInt(5)))
	return p
}

// eighths: the eight points that are Zero when taken 8 times; each is as many of the second one as its place says.
func eighths(t *testing.T) []api.Point {
	t.Helper()
	b := unhex(t, "26e8958fc2b227b045c3f489f2ef98f0d5dfac05d3c63339b13802886d53fc05")
	y := new(big.Int)
	for i := range b {
		y.Lsh(y, 8)
		y.Or(y, big.NewInt(int64(b[31-i])))
	}
	first, ok := withY(y)
	if !ok {
		t.Fatal("the point of eight is none")
	}
	out := []api.Point{zero}
	for range 7 {
		out = append(out, sumOf(out[len(out)-1], first))
	}
	return out
}

func unhex(t *testing.T, text string) [32]byte {
	t.Helper()
	b, err := hex.DecodeString(text)
	if err != nil || len(b) != 32 {
		t.Fatalf("%q: %v", text, err)
	}
	return [32]byte(b)
}

// drawnPoints are points of all kinds: few of them are Base taken some times.
func drawnPoints(seed uint64, count int) []api.Point {
	var out []api.Point
	for _, a := range drawn(seed, 4*count+20) {
		if p, ok := withY(mod(num(a))); ok && len(out) < count {
			if a[3]>>63 == 1 {
				p = negOf(p)
			}
			out = append(out, p)
		}
	}
	return out
}

// samples: the points of eight, Base and some near it, the same with points of eight added, those with the least and the greatest Y, and drawn ones.
func samples(t *testing.T) []api.Point {
	t.Helper()
	small := eighths(t)
	out := append([]api.Point{}, small...)
	p := base()
	for _, q := range small[:4] {
		out = append(out, p, negOf(p), sumOf(p, q), sumOf(negOf(p), q))
		p = sumOf(p, base())
	}
	for n := int64(2); n < 16; n++ {
		if q, ok := withY(big.NewInt(n)); ok {
			out = append(out, q, negOf(q))
		}
		if q, ok := withY(less(modulus, big.NewInt(n))); ok {
			out = append(out, q, negOf(q))
		}
	}
	return append(out, drawnPoints(1, 12)...)
}

// offCurve: points that are not ON, for each reason that there is.
func offCurve() []api.Point {
	b, y := base(), num(base().Y)
	three, _ := withY(big.NewInt(3))
	beyond := func(a api.Num) api.Num { return numOf(plus(num(a), modulus)) }
	return []api.Point{
		{},
		{X: one},
		{X: one, Y: one},
		{X: api.Num{5}},
		{X: top, Y: top},
		{X: prime, Y: prime},
		{X: prime, Y: one},         // Zero, with X 0 told as P
		{X: beyond(prime), Y: one}, // 2P
		{Y: beyond(one)},
		{Y: beyond(minus)},
		{Y: api.Num{most - 36, most, most, most}}, // 2P + 1
		{X: beyond(b.X), Y: b.Y},
		{X: b.X, Y: beyond(b.Y)},
		{X: three.X, Y: beyond(three.Y)},
		{X: beyond(three.X), Y: beyond(three.Y)},
		{X: b.Y, Y: b.X},
		{X: b.X, Y: one},
		{X: b.X, Y: none},
		{X: none, Y: b.Y},
		{X: b.X, Y: numOf(plus(y, big.NewInt(1)))},
		{X: three.X, Y: b.Y},
	}
}

func wantPoint(t *testing.T, what string, got api.Point, e api.Errno, want api.Point) {
	t.Helper()
	if got != want || e != api.OK {
		t.Errorf("%s: %x, %v; want %x, OK", what, got, e, want)
	}
}

func checkTimes(t *testing.T, n *big.Int, p, want api.Point) {
	t.Helper()
	got, e := curve.Times(numOf(n), p)
	wantPoint(t, n.String()+" times", got, e, want)
}

func TestSamplesAreOn(t *testing.T) {
	all := samples(t)
	if len(all) < 40 {
		t.Errorf("%d samples alone", len(all))
	}
	for i, p := range all {
		if !isOn(p) {
			t.Errorf("sample %d: %x is not ON", i, p)
		}
	}
	for i, p := range offCurve() {
		if isOn(p) {
			t.Errorf("point %d: %x is ON", i, p)
		}
	}
}

func TestP140Zero(t *testing.T) {
	if got := curve.Zero(); got != zero || !curve.On(got) {
		t.Errorf("Zero = %x", got)
	}
}

func TestP140Base(t *testing.T) {
	got := curve.Base()
	if five := product(big.NewInt(5), num(got.Y)); five.Cmp(big.NewInt(4)) != 0 {
		t.Errorf("5 times Y of Base = %x; want 4", five)
	}
	if got != base() || got.X[0]%2 != 0 || !isOn(got) || !curve.On(got) {
		t.Errorf("Base = %x; want %x", got, base())
	}
}

func TestP140On(t *testing.T) {
	for _, p := range samples(t) {
		x, y := num(p.X), num(p.Y)
		minusX, minusY := less(modulus, x), less(modulus, y)
		for _, q := range []api.Point{p, pointOf(minusX, y), pointOf(x, minusY), pointOf(minusX, minusY)} {
			if !curve.On(q) {
				t.Errorf("On(%x) = false", q)
			}
		}
	}
}

func TestP140NotOn(t *testing.T) {
	for i, p := range offCurve() {
		if curve.On(p) {
			t.Errorf("point %d: On(%x) = true", i, p)
		}
	}
	for _, a := range drawn(2, 100) {
		for _, b := range []api.Num{a, none, one, top, base().Y, base().X} {
			for _, p := range []api.Point{{X: a, Y: b}, {X: b, Y: a}} {
				if got := curve.On(p); got != isOn(p) {
					t.Errorf("On(%x) = %t", p, got)
				}
			}
		}
	}
}

// The same numbers modulo P are another point, and not ON, wherever they fit in 256 bits.
func TestP140PAddedOn(t *testing.T) {
	for _, p := range samples(t) {
		for _, by := range []*big.Int{modulus, new(big.Int).Lsh(modulus, 1)} {
			x, y := plus(num(p.X), by), plus(num(p.Y), by)
			if x.BitLen() <= 256 && curve.On(api.Point{X: numOf(x), Y: p.Y}) {
				t.Errorf("On of %x with %x put on X", p, by)
			}
			if y.BitLen() <= 256 && curve.On(api.Point{X: p.X, Y: numOf(y)}) {
				t.Errorf("On of %x with %x put on Y", p, by)
			}
		}
	}
}

func TestP140EachBitTurned(t *testing.T) {
	for _, p := range []api.Point{base(), zero, drawnPoints(3, 1)[0]} {
		for i := range 512 {
			q := p
			if i < 256 {
				q.X[i/64] ^= 1 << (i % 64)
			} else {
				q.Y[i/64-4] ^= 1 << (i % 64)
			}
			if got := curve.On(q); got != isOn(q) || got {
				t.Errorf("On(%x) = %t", q, got)
			}
		}
	}
}

// Neighbours of the curve, whose equations differ in a sign or in D, have points of their own.
func TestP140OtherCurves(t *testing.T) {
	root := new(big.Int).ModSqrt(less(modulus, big.NewInt(1)), modulus)
	for _, p := range drawnPoints(4, 10) {
		x, y := num(p.X), num(p.Y)
		for _, q := range []api.Point{
			pointOf(y, x),
			pointOf(product(x, root), y),
			pointOf(x, product(y, root)),
			pointOf(product(x, root), product(y, root)),
			pointOf(over(big.NewInt(1), x), y),
			pointOf(x, over(big.NewInt(1), y)),
		} {
			if got := curve.On(q); got != isOn(q) || got {
				t.Errorf("On(%x) = %t", q, got)
			}
		}
	}
}

func TestP141Neg(t *testing.T) {
	for _, p := range samples(t) {
		got, e := curve.Neg(p)
		wantPoint(t, "Neg", got, e, negOf(p))
		again, e := curve.Neg(got)
		wantPoint(t, "Neg of Neg", again, e, p)
		sum, e := curve.Add(p, got)
		wantPoint(t, "Add of Neg", sum, e, zero)
	}
	for _, p := range []api.Point{zero, {Y: minus}} {
		got, e := curve.Neg(p)
		wantPoint(t, "Neg of its own", got, e, p)
	}
}

func TestP141AddAllPairs(t *testing.T) {
	all := samples(t)
	for _, p := range all {
		for _, q := range all {
			got, e := curve.Add(p, q)
			wantPoint(t, "Add", got, e, sumOf(p, q))
		}
	}
}

func TestP141AddDrawn(t *testing.T) {
	all := drawnPoints(5, 400)
	for i := 1; i < len(all); i++ {
		p, q := all[i-1], all[i]
		got, e := curve.Add(p, q)
		wantPoint(t, "Add", got, e, sumOf(p, q))
		if !curve.On(got) {
			t.Errorf("Add(%x, %x) = %x is not ON", p, q, got)
		}
		left, e := curve.Add(got, negOf(q))
		wantPoint(t, "Add and off again", left, e, p)
		same, e := curve.Add(p, zero)
		wantPoint(t, "Add of Zero", same, e, p)
	}
}

func TestP141Eighths(t *testing.T) {
	all := eighths(t)
	for i, p := range all {
		for j, q := range all {
			got, e := curve.Add(p, q)
			wantPoint(t, "Add of eighths", got, e, all[(i+j)%8])
		}
		for n := range 17 {
			checkTimes(t, big.NewInt(int64(n)), p, all[i*n%8])
		}
		checkTimes(t, num(top), p, all[i*7%8])
		checkTimes(t, often, p, all[i*5%8]) // L is 5 modulo 8
	}
}

// By the promise's own words: p, added to Times of n - 1.
func TestP141TimesOneByOne(t *testing.T) {
	for i, p := range samples(t) {
		count := int64(8)
		if i%16 == 8 {
			count = 80
		}
		want := zero
		for n := range count {
			checkTimes(t, big.NewInt(n), p, want)
			want = sumOf(p, want)
		}
	}
}

func TestP141TimesBesideEachBit(t *testing.T) {
	p := drawnPoints(6, 1)[0]
	want := p
	for i := range uint(256) {
		checkTimes(t, power2(i), p, want)
		checkTimes(t, less(power2(i), big.NewInt(1)), p, sumOf(want, negOf(p)))
		if i > 0 {
			checkTimes(t, plus(power2(i), big.NewInt(1)), p, sumOf(want, p))
		}
		want = sumOf(want, want)
	}
	checkTimes(t, num(top), p, sumOf(want, negOf(p)))
}

func TestP141TimesDrawn(t *testing.T) {
	points := append(samples(t), drawnPoints(7, 20)...)
	for i, n := range drawn(7, len(points)+40) {
		p := points[i%len(points)]
		checkTimes(t, num(n), p, timesOf(num(n), p))
	}
}

// Base is Zero when it is taken L times, and so are its multiples; 15 is the greatest number of L's that fit.
func TestP141TimesNearL(t *testing.T) {
	for k := int64(1); k <= 15; k++ {
		n := new(big.Int).Mul(often, big.NewInt(k))
		checkTimes(t, n, base(), zero)
		checkTimes(t, plus(n, big.NewInt(1)), base(), base())
		checkTimes(t, less(n, big.NewInt(1)), base(), negOf(base()))
		for i, q := range eighths(t) {
			mixed := sumOf(base(), q)
			checkTimes(t, n, mixed, eighths(t)[5*i*int(k)%8])
		}
	}
	for _, p := range drawnPoints(8, 10) {
		checkTimes(t, new(big.Int).Lsh(often, 3), p, zero)
	}
}

func TestP141TimesAddUp(t *testing.T) {
	points := samples(t)
	for i, a := range drawn(9, 60) {
		p := points[i%len(points)]
		a[3] >>= 1
		b := drawn(uint64(100+i), 1)[0]
		b[3] >>= 1
		first, e := curve.Times(a, p)
		second, f := curve.Times(b, p)
		both, g := curve.Times(numOf(plus(num(a), num(b))), p)
		sum, h := curve.Add(first, second)
		if both != sum || !curve.On(sum) || e != api.OK || f != api.OK || g != api.OK || h != api.OK {
			t.Errorf("%x and %x times %x: %x, %x", a, b, p, both, sum)
		}
	}
}

// Public keys that are in use are Base as often as their seeds say, packed in the same way.
func TestP141KeysInUse(t *testing.T) {
	for i := range 60 {
		seed := sha512.Sum512([]byte{byte(i)})
		key := ed25519.NewKeyFromSeed(seed[:32])
		h := sha512.Sum512(seed[:32])
		h[0] &= 248
		h[31] = h[31]&127 | 64
		var n api.Num
		for j := range 32 {
			n[j/8] |= uint64(h[j]) << (j % 8 * 8)
		}
		p, e := curve.Times(n, curve.Base())
		b, f := curve.Pack(p)
		if want := [32]byte(key[32:]); b != want || e != api.OK || f != api.OK {
			t.Errorf("key %d: %x, %v, %v; want %x", i, b, e, f, want)
		}
		back, e := curve.Unpack(b)
		wantPoint(t, "Unpack of a key", back, e, p)
	}
}

func wantErrArg(t *testing.T, what string, p api.Point, e api.Errno) {
	t.Helper()
	if p != nowhere || e != api.ErrArg {
		t.Errorf("%s: %x, %v; want none, ErrArg", what, p, e)
	}
}

func TestP141NotOn(t *testing.T) {
	for _, bad := range offCurve() {
		p, e := curve.Neg(bad)
		wantErrArg(t, "Neg", p, e)
		for _, other := range []api.Point{base(), zero, negOf(base()), bad, nowhere} {
			p, e = curve.Add(bad, other)
			wantErrArg(t, "Add of a first one", p, e)
			p, e = curve.Add(other, bad)
			wantErrArg(t, "Add of a second one", p, e)
		}
		for _, n := range []api.Num{none, one, {2}, {8}, numOf(often), top} {
			p, e = curve.Times(n, bad)
			wantErrArg(t, "Times", p, e)
		}
		if b, e := curve.Pack(bad); b != [32]byte{} || e != api.ErrArg {
			t.Errorf("Pack(%x) = %x, %v; want none, ErrArg", bad, b, e)
		}
	}
}

func TestP142Examples(t *testing.T) {
	all := eighths(t)
	third, _ := withY(big.NewInt(3))
	for i, c := range []struct {
		p    api.Point
		text string
	}{
		{base(), "5866666666666666666666666666666666666666666666666666666666666666"},
		{negOf(base()), "58666666666666666666666666666666666666666666666666666666666666e6"},
		{sumOf(base(), base()), "c9a3f86aae465f0e56513864510f3997561fa2c9e85ea21dc2292309f3cd6022"},
		{zero, "0100000000000000000000000000000000000000000000000000000000000000"},
		{api.Point{Y: minus}, "ecffffffffffffffffffffffffffffffffffffffffffffffffffffffffffff7f"},
		{all[1], "26e8958fc2b227b045c3f489f2ef98f0d5dfac05d3c63339b13802886d53fc05"},
		{all[7], "26e8958fc2b227b045c3f489f2ef98f0d5dfac05d3c63339b13802886d53fc85"},
		{all[5], "c7176a703d4dd84fba3c0b760d10670f2a2053fa2c39ccc64ec7fd7792ac03fa"},
		{all[3], "c7176a703d4dd84fba3c0b760d10670f2a2053fa2c39ccc64ec7fd7792ac037a"},
		{third, "0300000000000000000000000000000000000000000000000000000000000000"},
		{negOf(third), "0300000000000000000000000000000000000000000000000000000000000080"},
	} {
		want := unhex(t, c.text)
		if b, e := curve.Pack(c.p); b != want || e != api.OK {
			t.Errorf("example %d: Pack = %x, %v; want %x", i, b, e, want)
		}
		p, e := curve.Unpack(want)
		wantPoint(t, "Unpack", p, e, c.p)
	}
}

// Of the two points with Y 0 one X is even and one odd.
func TestP142YOfZero(t *testing.T) {
	even, e := curve.Unpack([32]byte{})
	odd, f := curve.Unpack([32]byte{31: 128})
	if e != api.OK || f != api.OK || even.Y != none || odd != negOf(even) || even.X[0]%2 != 0 || odd.X[0]%2 != 1 || !isOn(even) {
		t.Errorf("Y of 0: %x, %v and %x, %v", even, e, odd, f)
	}
}

func TestP142ThereAndBack(t *testing.T) {
	for _, p := range append(samples(t), drawnPoints(10, 200)...) {
		for _, q := range []api.Point{p, negOf(p)} {
			b, e := curve.Pack(q)
			if b != packOf(q) || e != api.OK {
				t.Errorf("Pack(%x) = %x, %v; want %x", q, b, e, packOf(q))
			}
			back, e := curve.Unpack(b)
			wantPoint(t, "Unpack", back, e, q)
		}
	}
}

// checkUnpack of any bytes, by the promise's words: a point with that Y and an X of that kind is there, or there is none.
func checkUnpack(t *testing.T, b [32]byte) bool {
	t.Helper()
	got, e := curve.Unpack(b)
	y := new(big.Int)
	for i := range b {
		y.Lsh(y, 8)
		y.Or(y, big.NewInt(int64(b[31-i])))
	}
	want, ok := withY(y.SetBit(y, 255, 0))
	if b[31] >= 128 {
		want = negOf(want)
	}
	if ok && packOf(want) == b {
		wantPoint(t, "Unpack", got, e, want)
		return true
	}
	if got != nowhere || e != api.ErrForm {
		t.Errorf("Unpack(%x) = %x, %v; want none, ErrForm", b, got, e)
	}
	return false
}

// checkBoth: with the highest bit and without it; how many were Pack of a point.
func checkBoth(t *testing.T, b [32]byte) int {
	t.Helper()
	count := 0
	for range 2 {
		b[31] ^= 128
		if checkUnpack(t, b) {
			count++
		}
	}
	return count
}

func bytesOf(v *big.Int) [32]byte { return packOf(api.Point{Y: numOf(v)}) }

func TestP142SmallAndGreat(t *testing.T) {
	count := 0
	for n := range int64(300) {
		count += checkBoth(t, bytesOf(big.NewInt(n)))
		count += checkBoth(t, bytesOf(less(modulus, big.NewInt(n+1))))
	}
	if count < 300 || count > 900 {
		t.Errorf("of 1200 there were points of %d", count)
	}
}

func TestP142DrawnBytes(t *testing.T) {
	count := 0
	for _, a := range drawn(11, 500) {
		count += checkBoth(t, bytesOf(num(a)))
	}
	if count < 300 || count > 700 {
		t.Errorf("of 1000 there were points of %d", count)
	}
}

func TestP142EachBitTurned(t *testing.T) {
	for _, p := range []api.Point{base(), zero, {Y: minus}, drawnPoints(12, 1)[0]} {
		for i := range 256 {
			b := packOf(p)
			b[i/8] ^= 1 << (i % 8)
			checkUnpack(t, b)
		}
	}
}

// The nineteen numbers from P up to 2^255 - 1 are Y of no point, though modulo P some of them are.
func TestP142NotBelowP(t *testing.T) {
	points := 0
	for n := range int64(19) {
		if _, ok := withY(big.NewInt(n)); ok {
			points++
		}
		b := bytesOf(plus(modulus, big.NewInt(n)))
		for range 2 {
			if p, e := curve.Unpack(b); p != nowhere || e != api.ErrForm {
				t.Errorf("Unpack(%x) = %x, %v; want none, ErrForm", b, p, e)
			}
			b[31] ^= 128
		}
	}
	if points < 5 {
		t.Errorf("%d points alone have such a Y modulo P", points)
	}
}

// Where X is 0 it is not odd, and there is no other X with that Y.
func TestP142OddWhereXIsZero(t *testing.T) {
	for _, y := range []api.Num{one, minus} {
		b := bytesOf(num(y))
		p, e := curve.Unpack(b)
		wantPoint(t, "Unpack", p, e, api.Point{Y: y})
		b[31] ^= 128
		if p, e := curve.Unpack(b); p != nowhere || e != api.ErrForm {
			t.Errorf("Unpack(%x) = %x, %v; want none, ErrForm", b, p, e)
		}
	}
}

func TestP1AnyNumbers(t *testing.T) {
	all := append(drawn(13, 20), none, one, minus, prime, top)
	for i, a := range all {
		for _, b := range all {
			p := api.Point{X: a, Y: b}
			sum, e := curve.Add(p, p)
			many, f := curve.Times(all[len(all)-1-i], p)
			if curve.On(p) {
				continue
			}
			wantErrArg(t, "Add", sum, e)
			wantErrArg(t, "Times", many, f)
		}
	}
}

type answers struct {
	on                          bool
	base, neg, sum, times, back api.Point
	packed                      [32]byte
	errors                      [5]api.Errno
}

func askAll(n api.Num, p, q api.Point) answers {
	a := answers{on: curve.On(p), base: curve.Base()}
	a.neg, a.errors[0] = curve.Neg(p)
	a.sum, a.errors[1] = curve.Add(p, q)
	a.times, a.errors[2] = curve.Times(n, p)
	a.packed, a.errors[3] = curve.Pack(p)
	a.back, a.errors[4] = curve.Unpack(a.packed)
	return a
}

func TestP2AskedAgain(t *testing.T) {
	all := append(offCurve(), samples(t)...)
	numbers := drawn(14, len(all))
	var first []answers
	for i, p := range all {
		first = append(first, askAll(numbers[i], p, all[len(all)-1-i]))
	}
	for i := len(all) - 1; i >= 0; i-- {
		if again := askAll(numbers[i], all[i], all[len(all)-1-i]); again != first[i] {
			t.Errorf("asked again with %x: %v; want %v", all[i], again, first[i])
		}
	}
}

func TestP2AnswersAreApart(t *testing.T) {
	b, z := curve.Base(), curve.Zero()
	b.X[0], b.Y[3], z.X[1], z.Y[0] = 1, 2, 3, 4
	if curve.Base() != base() || curve.Zero() != zero {
		t.Errorf("Base = %x, Zero = %x behind a change of what was answered", curve.Base(), curve.Zero())
	}
}
