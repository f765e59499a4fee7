package ladder_test

import (
	"crypto/ecdh"
	"encoding/hex"
	"math"
	"math/big"
	"math/rand/v2"
	"slices"
	"testing"

	"sealring/api"
	"sealring/curve"
	"sealring/ladder"
)

const most = math.MaxUint64

var (
	none  = api.Num{}
	one   = api.Num{1}
	nine  = api.Num{9}
	top   = api.Num{most, most, most, most}
	prime = api.Num{most - 18, most, most, most >> 1}
	minus = api.Num{most - 19, most, most, most >> 1} // -1
	twice = api.Num{most - 37, most, most, most}      // 2P

	zero = api.Point{Y: one}

	// The numbers of the document, worked out by its own words and not by the project's packages.
	modulus = less(power2(255), big.NewInt(19))
	factor  = over(big.NewInt(-121665), big.NewInt(121666)) // D

	// So often Base makes Zero; and so often, taken 4 times, what is beside the curve comes to 0.
	often  = plus(power2(252), decimal("27742317777372353535851937790883648493"))
	beside = less(power2(253), decimal("55484635554744707071703875581767296995"))
)

func power2(n uint) *big.Int { return new(big.Int).Lsh(big.NewInt(1), n) }

func decimal(text string) *big.Int {
	v, _ := new(big.Int).SetString(text, 10)
	return v
}

func plus(a, b *big.Int) *big.Int { return new(big.Int).Add(a, b) }

func less(a, b *big.Int) *big.Int { return new(big.Int).Sub(a, b) }

func mod(v *big.Int) *big.Int { return new(big.Int).Mod(v, modulus) }

// product of two or more, modulo P.
func product(first *big.Int, others ...*big.Int) *big.Int {
	v := first
	for _, a := range others {
		v = mod(new(big.Int).Mul(v, a))
	}
	return v
}

// over: a/b, which is 0, if b is 0 modulo P.
func over(a, b *big.Int) *big.Int {
	if b = mod(b); b.Sign() == 0 {
		return b
	}
	return product(a, new(big.Int).ModInverse(b, modulus))
}

func num(a api.Num) *big.Int {
	v := new(big.Int)
	for i := len(a) - 1; i >= 0; i-- {
		v.Lsh(v, 64)
		v.Or(v, new(big.Int).SetUint64(a[i]))
	}
	return v
}

func numOf(v *big.Int) api.Num {
	var a api.Num
	for i := range a {
		a[i] = new(big.Int).Rsh(v, uint(64*i)).Uint64()
	}
	return a
}

func pointOf(x, y *big.Int) api.Point { return api.Point{X: numOf(mod(x)), Y: numOf(mod(y))} }

func unhex(t *testing.T, text string) [32]byte {
	t.Helper()
	b, err := hex.DecodeString(text)
	if err != nil || len(b) != 32 {
		t.Fatalf("%q: %v", text, err)
	}
	return [32]byte(b)
}

// numOfBytes, the least first.
func numOfBytes(b [32]byte) api.Num {
	slices.Reverse(b[:])
	return numOf(new(big.Int).SetBytes(b[:]))
}

func bytesOf(a api.Num) [32]byte {
	var b [32]byte
	num(a).FillBytes(b[:])
	slices.Reverse(b[:])
	return b
}

func drawn(seed uint64, count int) []api.Num {
	r := rand.New(rand.NewPCG(16, seed))
	out := make([]api.Num, count)
	for i := range out {
		out[i] = api.Num{r.Uint64(), r.Uint64(), r.Uint64(), r.Uint64()}
	}
	return out
}

// pair of the document: X and Z.
type pair struct{ x, z *big.Int }

func twiceOf(p pair) pair {
	s := product(plus(p.x, p.z), plus(p.x, p.z))
	t := product(less(p.x, p.z), less(p.x, p.z))
	e := less(s, t)
	return pair{product(s, t), product(e, plus(s, product(big.NewInt(121665), e)))}
}

func joinedOf(p, q pair, u *big.Int) pair {
	a := product(plus(q.x, q.z), less(p.x, p.z))
	b := product(less(q.x, q.z), plus(p.x, p.z))
	return pair{product(plus(a, b), plus(a, b)), product(u, less(a, b), less(a, b))}
}

// ladderOf k and u, as P160 tells it.
func ladderOf(k, u api.Num) api.Num {
	often, start := num(k), mod(num(u))
	q, r := pair{big.NewInt(1), big.NewInt(0)}, pair{start, big.NewInt(1)}
	for i := 255; i >= 0; i-- {
		both := joinedOf(q, r, start)
		if often.Bit(i) == 0 {
			q, r = twiceOf(q), both
		} else {
			q, r = both, twiceOf(r)
		}
	}
	return numOf(over(q.x, q.z))
}

// doubled by the curve's own equation, v*v = u*u*u + 486662*u*u + u, and without pairs.
func doubled(u *big.Int) *big.Int {
	uu := product(u, u)
	above := less(uu, big.NewInt(1))
	right := plus(plus(uu, product(big.NewInt(486662), u)), big.NewInt(1))
	return over(product(above, above), product(big.NewInt(4), u, right))
}

// isOf a point of the curve: of the others it is said that they are beside it.
func isOf(u *big.Int) bool {
	right := plus(plus(product(u, u, u), product(big.NewInt(486662), u, u)), u)
	return big.Jacobi(mod(right), modulus) >= 0
}

// withY: the point with this Y and an even X, if there is one.
func withY(y *big.Int) (api.Point, bool) {
	yy := product(y, y)
	x := over(less(yy, big.NewInt(1)), plus(big.NewInt(1), product(factor, yy)))
	if big.Jacobi(x, modulus) < 0 {
		return api.Point{}, false
	}
	x.ModSqrt(x, modulus)
	if x.Bit(0) == 1 {
		x = less(modulus, x)
	}
	return pointOf(x, y), true
}

func base() api.Point {
	p, _ := withY(over(big.NewInt(4), big.NewInt(5)))
	return p
}

func negOf(p api.Point) api.Point { return pointOf(new(big.Int).Neg(num(p.X)), num(p.Y)) }

// ofPoint as P161 tells it.
func ofPoint(p api.Point) api.Num {
	y := num(p.Y)
	return numOf(over(plus(big.NewInt(1), y), less(big.NewInt(1), y)))
}

// eighths: the eight points that are Zero when taken 8 times; each is as many of the second one as its place says.
func eighths(t *testing.T) []api.Point {
	t.Helper()
	first, ok := withY(num(numOfBytes(unhex(t, "26e8958fc2b227b045c3f489f2ef98f0d5dfac05d3c63339b13802886d53fc05"))))
	if !ok {
		t.Fatal("the point of eight is none")
	}
	out := []api.Point{zero}
	for range 7 {
		next, e := curve.Add(out[len(out)-1], first)
		if e != api.OK {
			t.Fatal(e)
		}
		out = append(out, next)
	}
	return out
}

// points: the points of eight, Base, those with the least and the greatest Y, drawn ones, and the negatives of all.
func points(t *testing.T) []api.Point {
	t.Helper()
	out := append(eighths(t), base())
	for n := range int64(20) {
		for _, y := range []*big.Int{big.NewInt(n), less(modulus, big.NewInt(n+1))} {
			if p, ok := withY(y); ok {
				out = append(out, p)
			}
		}
	}
	for _, a := range drawn(1, 60) {
		if p, ok := withY(mod(num(a))); ok {
			out = append(out, p)
		}
	}
	for _, p := range slices.Clone(out) {
		out = append(out, negOf(p))
	}
	return out
}

// offCurve: points that are not ON, for each reason that there is.
func offCurve() []api.Point {
	b := base()
	three, _ := withY(big.NewInt(3))
	beyond := func(a api.Num) api.Num { return numOf(plus(num(a), modulus)) }
	return []api.Point{
		{},
		{X: one},
		{X: one, Y: one},
		{X: top, Y: top},
		{X: prime, Y: prime},
		{X: prime, Y: one}, // Zero, with X 0 told as P
		{X: twice, Y: one},
		{Y: beyond(one)},
		{Y: beyond(minus)},
		{Y: api.Num{most - 36, most, most, most}}, // 2P + 1
		{X: beyond(b.X), Y: b.Y},
		{X: b.X, Y: beyond(b.Y)},
		{X: three.X, Y: beyond(three.Y)},
		{X: beyond(three.X), Y: beyond(three.Y)},
		{X: b.Y, Y: b.X},
		{X: b.X, Y: one},
		{X: b.X, Y: minus},
		{X: b.X, Y: none},
		{X: none, Y: b.Y},
		{X: three.X, Y: b.Y},
	}
}

// nearMultiples: all numbers within 20 of 0, P and 2P; 2^255 and 2^256 - 1 are beside them.
func nearMultiples() []api.Num {
	out := []api.Num{{3: 1 << 63}, top}
	for often := range int64(3) {
		center := new(big.Int).Mul(modulus, big.NewInt(often))
		for by := int64(-20); by <= 20; by++ {
			if v := plus(center, big.NewInt(by)); v.Sign() >= 0 {
				out = append(out, numOf(v))
			}
		}
	}
	return out
}

func check(t *testing.T, k, u, want api.Num) {
	t.Helper()
	if got := ladder.Ladder(k, u); got != want {
		t.Errorf("Ladder(%x, %x) = %x; want %x", k, u, got, want)
	}
}

func TestP160Examples(t *testing.T) {
	for _, c := range []struct{ k, u, want api.Num }{
		{none, none, none},
		{none, one, none},
		{none, nine, none},
		{none, top, none},
		{one, none, none},
		{one, one, one},
		{one, nine, nine},
		{one, minus, minus},
		{one, prime, none},
		{one, twice, none},
		{one, top, api.Num{37}},
		{one, api.Num{3: 1 << 63}, api.Num{19}},
		{api.Num{2}, none, none},
		{api.Num{2}, one, none},
		{api.Num{2}, minus, none},
		{api.Num{3}, one, one},
		{api.Num{3}, minus, minus},
		{api.Num{4}, one, none},
		{api.Num{5}, one, one},
		{api.Num{5}, minus, minus},
		{top, none, none},
		{top, one, one},
		{top, minus, minus},
		{top, prime, none},
		{api.Num{3: 1 << 63}, one, none},
		{api.Num{1, 0, 0, 1 << 63}, one, one},
	} {
		check(t, c.k, c.u, c.want)
	}
}

func TestP160AsTold(t *testing.T) {
	all := []api.Num{
		none, one, {2}, {3}, {4}, {7}, {8}, nine, {0, 1}, {0, 0, 1}, {0, 0, 0, 1}, {most}, {0, most}, {0, 0, most}, {0, 0, 0, most},
		minus, prime, {most - 17, most, most, most >> 1}, {3: 1 << 63}, twice, top, numOf(often), numOf(beside),
	}
	all = append(all, drawn(2, 4)...)
	for _, k := range all {
		for _, u := range all {
			check(t, k, u, ladderOf(k, u))
		}
	}
}

func TestP160Drawn(t *testing.T) {
	all := drawn(3, 800)
	for i := 1; i < len(all); i += 2 {
		check(t, all[i-1], all[i], ladderOf(all[i-1], all[i]))
	}
}

// Numbers with few ones, and with few others, have long stretches of bits of one kind.
func TestP160BesideEachBit(t *testing.T) {
	u := drawn(4, 1)[0]
	want := mod(num(u))
	for i := range uint(256) {
		k := power2(i)
		check(t, numOf(k), u, numOf(want))
		for _, near := range []*big.Int{less(k, big.NewInt(1)), plus(k, big.NewInt(1)), less(power2(256), k)} {
			check(t, numOf(near), u, ladderOf(numOf(near), u))
		}
		want = doubled(want)
	}
}

func TestP160EachBitOfU(t *testing.T) {
	k := drawn(5, 1)[0]
	for i := range uint(256) {
		for by := int64(-1); by <= 0; by++ {
			u := numOf(plus(power2(i), big.NewInt(by)))
			check(t, k, u, ladderOf(k, u))
		}
	}
}

// u counts modulo P: what is as much modulo P has the same answer, and that is below P.
func TestP160UModuloP(t *testing.T) {
	numbers := append(drawn(6, 1), one, api.Num{2}, top)
	for _, u := range append(nearMultiples(), drawn(7, 10)...) {
		low := numOf(mod(num(u)))
		for _, k := range numbers {
			got := ladder.Ladder(k, u)
			if got != ladder.Ladder(k, low) || got != ladderOf(k, u) || num(got).Cmp(modulus) >= 0 {
				t.Errorf("Ladder(%x, %x) = %x; want %x", k, u, got, ladderOf(k, u))
			}
		}
		check(t, one, u, low)
		check(t, none, u, none)
	}
}

// k does not count modulo anything: not modulo P, and not modulo L where u is of no multiple of Base.
func TestP160KIsTakenWhole(t *testing.T) {
	for _, u := range drawn(8, 6) {
		for _, by := range []*big.Int{modulus, new(big.Int).Lsh(modulus, 1), power2(255), power2(254), often} {
			k := numOf(plus(by, big.NewInt(3)))
			got := ladder.Ladder(k, u)
			if got != ladderOf(k, u) || got == ladder.Ladder(api.Num{3}, u) {
				t.Errorf("Ladder(%x, %x) = %x; want %x", k, u, got, ladderOf(k, u))
			}
		}
	}
}

// The numbers of points that are Zero when taken 8 times, and those beside the curve that come to 0 when taken 4 times.
func TestP160FewTimes(t *testing.T) {
	second := decimal("325606250916557431795983626356110631294008115727848805560023387167927233504")
	fourth := decimal("39382357235489614581723060781553021112529911719440698176882885853963445705823")
	cycles := map[string][]*big.Int{
		"second": {big.NewInt(0), second, big.NewInt(1), fourth, big.NewInt(0), fourth, big.NewInt(1), second},
		"fourth": {big.NewInt(0), fourth, big.NewInt(1), second, big.NewInt(0), second, big.NewInt(1), fourth},
		"one":    {big.NewInt(0), big.NewInt(1)},
		"minus":  {big.NewInt(0), num(minus)},
		"none":   {big.NewInt(0)},
	}
	for name, cycle := range cycles {
		u := numOf(cycle[1%len(cycle)])
		for n := range 40 {
			want := numOf(cycle[n%len(cycle)])
			if got := ladder.Ladder(api.Num{uint64(n)}, u); got != want {
				t.Errorf("%s: Ladder(%d) = %x; want %x", name, n, got, want)
			}
		}
		for _, k := range drawn(9, 10) {
			k[0] &^= 7
			check(t, k, u, none)
			k[0]++
			check(t, k, u, u)
		}
	}
}

// L times Base is Zero, 15 L at most fit; just ahead and behind stands Base's own number again.
func TestP160NearL(t *testing.T) {
	for n := int64(1); n <= 15; n++ {
		k := new(big.Int).Mul(often, big.NewInt(n))
		check(t, numOf(k), nine, none)
		check(t, numOf(plus(k, big.NewInt(1))), nine, nine)
		check(t, numOf(less(k, big.NewInt(1))), nine, nine)
		check(t, numOf(plus(k, big.NewInt(2))), nine, numOf(doubled(big.NewInt(9))))
		check(t, numOf(less(k, big.NewInt(2))), nine, numOf(doubled(big.NewInt(9))))
	}
}

// Numbers that are Of no point have an answer too, and come to 0 by another number of times.
func TestP160OnTheCurveAndBeside(t *testing.T) {
	kinds := map[bool]int{}
	for _, u := range append(drawn(10, 60), api.Num{2}, api.Num{3}, nine) {
		whole := new(big.Int).Lsh(beside, 2)
		if isOf(mod(num(u))) {
			whole = new(big.Int).Lsh(often, 3)
		}
		kinds[isOf(mod(num(u)))]++
		low := mod(num(u))
		check(t, numOf(whole), u, none)
		check(t, numOf(plus(whole, big.NewInt(1))), u, numOf(low))
		check(t, numOf(less(whole, big.NewInt(1))), u, numOf(low))
		check(t, numOf(plus(whole, big.NewInt(2))), u, numOf(doubled(low)))
	}
	if kinds[true] < 15 || kinds[false] < 15 {
		t.Errorf("the numbers are of the kinds %v", kinds)
	}
}

func TestP160OneAfterTheOther(t *testing.T) {
	all := drawn(11, 90)
	for i := 2; i < len(all); i += 3 {
		a, b, u := all[i-2], all[i-1], all[i]
		first := ladder.Ladder(a, ladder.Ladder(b, u))
		second := ladder.Ladder(b, ladder.Ladder(a, u))
		if first != second || first == none {
			t.Errorf("%x and %x times %x: %x, %x", a, b, u, first, second)
		}
	}
}

// clamped as those do who are in use.
func clamped(b [32]byte) api.Num {
	b[0] &= 248
	b[31] = b[31]&127 | 64
	return numOfBytes(b)
}

func TestP160AsOthersHaveIt(t *testing.T) {
	for i, c := range []struct{ k, u, want string }{
		{
			"a546e36bf0527c9d3b16154b82465edd62144c0ac1fc5a18506a2244ba449ac4",
			"e6db6867583030db3594c1a424b15f7c726624ec26b3353b10a903a6d0ab1c4c",
			"c3da55379de9c6908e94ea4df28d084f32eccf03491c71f754b4075577a28552",
		},
		{
			"4b66e9d4d1b4673c5ad22691957d6af5c11b6421e0ea01d42ca4169e7918ba0d",
			"e5210f12786811d3f4b7959d0538ae2c31dbe7106fc03c3efc4cd549c715a413", // without the bit that they leave out
			"95cbde9476e8907d7aade45cb4b873f88b595a68799fa152e6f8f7647aac7957",
		},
		{
			"0900000000000000000000000000000000000000000000000000000000000000",
			"0900000000000000000000000000000000000000000000000000000000000000",
			"422c8e7a6227d7bca1350b3e2bb7279f7897b87bb6854b783c60e80311ae3079",
		},
	} {
		k, u := clamped(unhex(t, c.k)), numOfBytes(unhex(t, c.u))
		if got := bytesOf(ladder.Ladder(k, u)); got != unhex(t, c.want) {
			t.Errorf("example %d: %x; want %s", i, got, c.want)
		}
	}
}

func TestP160AThousandInARow(t *testing.T) {
	k, u := nine, nine
	for range 1000 {
		k, u = ladder.Ladder(clamped(bytesOf(k)), u), k
	}
	want := unhex(t, "684cf59ba83309552800ef566f2f4d3c1c3887c49360e3875f2eb94d99532c51")
	if got := bytesOf(k); got != want {
		t.Errorf("%x; want %x", got, want)
	}
}

func TestP160KeysInUse(t *testing.T) {
	all := drawn(12, 200)
	for i := 1; i < len(all); i += 2 {
		mine, theirs := bytesOf(all[i-1]), bytesOf(all[i])
		secret, err := ecdh.X25519().NewPrivateKey(mine[:])
		if err != nil {
			t.Fatal(err)
		}
		public, err := ecdh.X25519().NewPublicKey(theirs[:])
		if err != nil {
			t.Fatal(err)
		}
		shared, err := secret.ECDH(public)
		if err != nil {
			t.Fatal(err)
		}
		theirs[31] &= 127 // They leave this bit out.
		check(t, clamped(mine), numOfBytes(theirs), numOfBytes([32]byte(shared)))
		check(t, clamped(mine), nine, numOfBytes([32]byte(secret.PublicKey().Bytes())))
	}
}

func checkOf(t *testing.T, p api.Point, want api.Num) {
	t.Helper()
	if got, e := ladder.Of(p); got != want || e != api.OK {
		t.Errorf("Of(%x) = %x, %v; want %x, OK", p, got, e, want)
	}
}

func TestP161Examples(t *testing.T) {
	root := new(big.Int).ModSqrt(less(modulus, big.NewInt(1)), modulus)
	second := decimal("39382357235489614581723060781553021112529911719440698176882885853963445705823")
	checkOf(t, zero, none)
	checkOf(t, api.Point{Y: minus}, none)
	checkOf(t, base(), nine)
	checkOf(t, curve.Base(), nine)
	checkOf(t, curve.Zero(), none)
	checkOf(t, negOf(base()), nine)
	checkOf(t, pointOf(root, big.NewInt(0)), one)
	checkOf(t, pointOf(less(modulus, root), big.NewInt(0)), one)
	checkOf(t, eighths(t)[1], numOf(second))
	if p, ok := withY(big.NewInt(3)); !ok {
		t.Error("no point with Y 3")
	} else {
		checkOf(t, p, numOf(less(modulus, big.NewInt(2)))) // 4 / -2
	}
}

func TestP161AllPoints(t *testing.T) {
	all := points(t)
	if len(all) < 80 {
		t.Errorf("%d points alone", len(all))
	}
	for _, p := range all {
		checkOf(t, p, ofPoint(p))
		if u, _ := ladder.Of(p); !isOf(num(u)) || num(u).Cmp(modulus) >= 0 {
			t.Errorf("Of(%x) = %x, which is beside the curve, or not below P", p, u)
		}
	}
}

// Points with -Y in Y's place have the inverse for their number.
func TestP161OtherY(t *testing.T) {
	for _, p := range points(t) {
		u := num(ofPoint(p))
		checkOf(t, pointOf(num(p.X), less(modulus, num(p.Y))), numOf(over(big.NewInt(1), u)))
	}
}

func wantErrArg(t *testing.T, p api.Point) {
	t.Helper()
	if u, e := ladder.Of(p); u != none || e != api.ErrArg {
		t.Errorf("Of(%x) = %x, %v; want 0, ErrArg", p, u, e)
	}
}

func TestP161NotOn(t *testing.T) {
	for _, p := range offCurve() {
		wantErrArg(t, p)
	}
	for _, a := range drawn(13, 50) {
		for _, b := range []api.Num{a, none, one, minus, top, base().X, base().Y} {
			wantErrArg(t, api.Point{X: a, Y: b})
			wantErrArg(t, api.Point{X: b, Y: a})
		}
	}
}

func TestP161EachBitTurned(t *testing.T) {
	for _, p := range []api.Point{base(), zero, eighths(t)[1]} {
		for i := range 256 {
			x, y := p, p
			x.X[i/64] ^= 1 << (i % 64)
			y.Y[i/64] ^= 1 << (i % 64)
			wantErrArg(t, x)
			wantErrArg(t, y)
		}
	}
}

// The same numbers modulo P are another point, and not ON, wherever they fit in 256 bits.
func TestP161PAddedOn(t *testing.T) {
	for _, p := range points(t) {
		for _, by := range []*big.Int{modulus, new(big.Int).Lsh(modulus, 1)} {
			if x := plus(num(p.X), by); x.BitLen() <= 256 {
				wantErrArg(t, api.Point{X: numOf(x), Y: p.Y})
			}
			if y := plus(num(p.Y), by); y.BitLen() <= 256 {
				wantErrArg(t, api.Point{X: p.X, Y: numOf(y)})
			}
		}
	}
}

// checkWay: by the point and by its number alone it is the same.
func checkWay(t *testing.T, k api.Num, p api.Point) {
	t.Helper()
	u, e := ladder.Of(p)
	many, f := curve.Times(k, p)
	want, g := ladder.Of(many)
	if got := ladder.Ladder(k, u); got != want || e != api.OK || f != api.OK || g != api.OK {
		t.Errorf("%x times %x: %x; want %x (%v, %v, %v)", k, p, got, want, e, f, g)
	}
}

func TestP161TimesFew(t *testing.T) {
	for _, p := range points(t) {
		for n := range uint64(6) {
			checkWay(t, api.Num{n}, p)
		}
	}
}

func TestP161TimesMany(t *testing.T) {
	all := points(t)
	numbers := append(drawn(14, len(all)), top, numOf(often), minus, prime)
	for i, p := range all {
		checkWay(t, numbers[i], p)
	}
	for _, p := range eighths(t) {
		mixed, e := curve.Add(base(), p)
		if e != api.OK {
			t.Fatal(e)
		}
		for _, k := range numbers[len(all)-4:] {
			checkWay(t, k, p)
			checkWay(t, k, mixed)
		}
	}
}

type answers struct {
	many, of api.Num
	e        api.Errno
}

func askAll(k, u api.Num, p api.Point) answers {
	a := answers{many: ladder.Ladder(k, u)}
	a.of, a.e = ladder.Of(p)
	return a
}

func TestP2AskedAgain(t *testing.T) {
	all := append(offCurve(), points(t)...)
	numbers := drawn(15, len(all))
	var first []answers
	for i, p := range all {
		first = append(first, askAll(numbers[i], numbers[len(all)-1-i], p))
	}
	for i := len(all) - 1; i >= 0; i-- {
		if again := askAll(numbers[i], numbers[len(all)-1-i], all[i]); again != first[i] {
			t.Errorf("asked again with %x: %v; want %v", all[i], again, first[i])
		}
	}
}
