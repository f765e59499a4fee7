package sign_test

import (
	"bytes"
	"crypto/sha256"
	"encoding/hex"
	"math"
	"math/big"
	"math/rand/v2"
	"slices"
	"testing"

	"sealring/api"
	"sealring/curve"
	"sealring/sign"
)

const most = math.MaxUint64

var (
	top    = api.Num{most, most, most, most}
	one    = big.NewInt(1)
	nought = big.NewInt(0)

	// So often Base makes Zero: the document's L.
	modulus = new(big.Int).Add(power2(252), decimal("27742317777372353535851937790883648493"))
)

func power2(n uint) *big.Int { return new(big.Int).Lsh(big.NewInt(1), n) }

func decimal(text string) *big.Int {
	v, _ := new(big.Int).SetString(text, 10)
	return v
}

func plus(a, b *big.Int) *big.Int { return new(big.Int).Add(a, b) }

func less(a, b *big.Int) *big.Int { return new(big.Int).Sub(a, b) }

func product(a, b *big.Int) *big.Int { return new(big.Int).Mul(a, b) }

func mod(v *big.Int) *big.Int { return new(big.Int).Mod(v, modulus) }

// valueOf bytes, the least first.
func valueOf(b []byte) *big.Int {
	turned := slices.Clone(b)
	slices.Reverse(turned)
	return new(big.Int).SetBytes(turned)
}

// bytesOf a number below 2^256, the least first.
func bytesOf(v *big.Int) [32]byte {
	var b [32]byte
	v.FillBytes(b[:])
	slices.Reverse(b[:])
	return b
}

func numOf(v *big.Int) api.Num {
	var a api.Num
	for i := range a {
		a[i] = new(big.Int).Rsh(v, uint(64*i)).Uint64()
	}
	return a
}

func num(a api.Num) *big.Int {
	v := new(big.Int)
	for i := len(a) - 1; i >= 0; i-- {
		v.Lsh(v, 64)
		v.Or(v, new(big.Int).SetUint64(a[i]))
	}
	return v
}

func unhex(t *testing.T, text string) []byte {
	t.Helper()
	b, err := hex.DecodeString(text)
	if err != nil {
		t.Fatalf("%q: %v", text, err)
	}
	return b
}

// source of numbers and bytes that are the same in each run.
type source struct{ *rand.Rand }

func drawn(seed uint64) source { return source{rand.New(rand.NewPCG(17, seed))} }

func (s source) bytes(n int) []byte {
	b := make([]byte, n)
	for i := range b {
		b[i] = byte(s.Uint32())
	}
	return b
}

func (s source) seed() [32]byte { return [32]byte(s.bytes(32)) }

func (s source) num() api.Num { return api.Num{s.Uint64(), s.Uint64(), s.Uint64(), s.Uint64()} }

// below L.
func (s source) below() *big.Int { return mod(num(s.num())) }

// What the document's words make, without package sign: sums are whole numbers, digests Go's own; points are package curve's, which has tests of its own.

// digestOf: scalar.Digest of the label and the parts.
func digestOf(label byte, parts ...[]byte) *big.Int {
	p := bytes.Join(parts, nil)
	low := sha256.Sum256(append([]byte{label, 0}, p...))
	high := sha256.Sum256(append([]byte{label, 1}, p...))
	return mod(valueOf(append(low[:], high[:]...)))
}

func times(t *testing.T, n *big.Int, p api.Point) api.Point {
	t.Helper()
	many, e := curve.Times(numOf(n), p)
	if e != api.OK {
		t.Fatalf("Times(%x, %x): %v", n, p, e)
	}
	return many
}

func sum(t *testing.T, p, q api.Point) api.Point {
	t.Helper()
	both, e := curve.Add(p, q)
	if e != api.OK {
		t.Fatalf("Add(%x, %x): %v", p, q, e)
	}
	return both
}

func pack(t *testing.T, p api.Point) [32]byte {
	t.Helper()
	b, e := curve.Pack(p)
	if e != api.OK {
		t.Fatalf("Pack(%x): %v", p, e)
	}
	return b
}

func packedBase(t *testing.T, n *big.Int) [32]byte {
	t.Helper()
	return pack(t, times(t, n, curve.Base()))
}

// pairOf a seed. No seed of the tests has a digest of 0.
func pairOf(t *testing.T, seed [32]byte) api.Pair {
	t.Helper()
	secret := digestOf(1, seed[:])
	return api.Pair{
		Secret: numOf(secret),
		Mask:   sha256.Sum256(append([]byte{2}, seed[:]...)),
		Public: packedBase(t, secret),
	}
}

func signOf(t *testing.T, seed [32]byte, p []byte) [64]byte {
	t.Helper()
	pair := pairOf(t, seed)
	r := digestOf(3, pair.Mask[:], p)
	first := packedBase(t, r)
	c := digestOf(4, first[:], pair.Public[:], p)
	second := bytesOf(mod(plus(r, product(c, num(pair.Secret)))))
	return [64]byte(append(first[:], second[:]...))
}

// isPack of a point that is ON?
func isPack(b []byte) bool {
	_, e := curve.Unpack([32]byte(b))
	return e == api.OK
}

// verifyOf, with the document's errors.
func verifyOf(t *testing.T, x api.Signed) api.Errno {
	t.Helper()
	if len(x.Sig) != 64 {
		return api.ErrArg
	}
	s := valueOf(x.Sig[32:])
	if !isPack(x.Public[:]) || !isPack(x.Sig[:32]) || s.Cmp(modulus) >= 0 {
		return api.ErrForm
	}
	a, _ := curve.Unpack(x.Public)
	r, _ := curve.Unpack([32]byte(x.Sig[:32]))
	c := digestOf(4, x.Sig[:32], x.Public[:], x.Text)
	if times(t, s, curve.Base()) != sum(t, r, times(t, c, a)) {
		return api.ErrSum
	}
	return api.OK
}

func verify(x api.Signed) api.Errno { return sign.Verify(x.Public, x.Text, x.Sig) }

func wantVerify(t *testing.T, what string, x api.Signed, want api.Errno) {
	t.Helper()
	if got := verify(x); got != want {
		t.Errorf("%s: Verify(%x, %x, %x) = %v; want %v", what, x.Public, x.Text, x.Sig, got, want)
	}
}

func wantBatch(t *testing.T, what string, l []api.Signed, weights []api.Num, want api.Errno) {
	t.Helper()
	if got := sign.Batch(l, weights); got != want {
		t.Errorf("%s: Batch(%x, %x) = %v; want %v", what, l, weights, got, want)
	}
}

// signed by the pair of the seed.
func signed(seed [32]byte, p []byte) api.Signed {
	sig := sign.Sign(seed, p)
	return api.Signed{Public: sign.New(seed).Public, Text: slices.Clone(p), Sig: sig[:]}
}

// anySigned: as many as are asked for, of different seeds and texts.
func anySigned(s source, count int) []api.Signed {
	var out []api.Signed
	for i := range count {
		out = append(out, signed(s.seed(), s.bytes(i)))
	}
	return out
}

// copied: x, and no memory of it.
func copied(x api.Signed) api.Signed {
	return api.Signed{Public: x.Public, Text: slices.Clone(x.Text), Sig: slices.Clone(x.Sig)}
}

// withNumber: x with another second half.
func withNumber(x api.Signed, s *big.Int) api.Signed {
	out, b := copied(x), bytesOf(s)
	copy(out.Sig[32:], b[:])
	return out
}

// withFirst: x with another first half.
func withFirst(x api.Signed, first [32]byte) api.Signed {
	out := copied(x)
	copy(out.Sig, first[:])
	return out
}

// eighths: the eight points that are Zero when taken 8 times; each is as many of the second one as its place says.
func eighths(t *testing.T) []api.Point {
	t.Helper()
	first, e := curve.Unpack([32]byte(unhex(t, "26e8958fc2b227b045c3f489f2ef98f0d5dfac05d3c63339b13802886d53fc05")))
	if e != api.OK {
		t.Fatal(e)
	}
	out := []api.Point{curve.Zero()}
	for range 7 {
		out = append(out, sum(t, out[len(out)-1], first))
	}
	if sum(t, out[7], first) != curve.Zero() || out[4] == curve.Zero() {
		t.Fatal("the point of eight is none")
	}
	return out
}

// bent signature: what it says is wrong by as much as it is known to be.
type bent struct {
	api.Signed
	lacks  *big.Int // R and A c times, added, are Base s times, less Base so often,
	eighth int      // and so many eighths
}

// bend a signature: its public point has inA eighths, its R inR, and its number by too many.
func bend(t *testing.T, s source, inA, inR int, by *big.Int) bent {
	t.Helper()
	small := eighths(t)
	a, r, text := s.below(), s.below(), s.bytes(s.IntN(70))
	public := pack(t, sum(t, times(t, a, curve.Base()), small[inA]))
	first := pack(t, sum(t, times(t, r, curve.Base()), small[inR]))
	c := digestOf(4, first[:], public[:], text)
	second := bytesOf(mod(plus(plus(r, product(c, a)), by)))
	eighth := new(big.Int).Mod(product(c, big.NewInt(int64(inA))), big.NewInt(8))
	return bent{
		Signed: api.Signed{Public: public, Text: text, Sig: append(first[:], second[:]...)},
		lacks:  mod(by),
		eighth: (inR + int(eighth.Int64())) % 8,
	}
}

func (b bent) want() api.Errno { return wantOf([]bent{b}, []api.Num{{1}}) }

// wantOf all, each its weight times: nothing may be left of what they lack, and no eighth.
func wantOf(all []bent, weights []api.Num) api.Errno {
	lacks, eighth := new(big.Int), new(big.Int)
	for i, b := range all {
		lacks.Add(lacks, product(num(weights[i]), b.lacks))
		eighth.Add(eighth, product(num(weights[i]), big.NewInt(int64(b.eighth))))
	}
	if mod(lacks).Sign() != 0 || eighth.Mod(eighth, big.NewInt(8)).Sign() != 0 {
		return api.ErrSum
	}
	return api.OK
}

func signedOf(all []bent) []api.Signed {
	var out []api.Signed
	for _, b := range all {
		out = append(out, b.Signed)
	}
	return out
}

// packOfNone: bytes that are Pack of no point that is ON, for each reason that there is.
func packOfNone() [][32]byte {
	prime := less(power2(255), big.NewInt(19))
	odd := func(v *big.Int) [32]byte { return bytesOf(plus(v, power2(255))) }
	beyond := func(by int64) *big.Int { return plus(prime, big.NewInt(by)) }
	return [][32]byte{
		bytesOf(big.NewInt(2)), // no X belongs to that Y
		odd(big.NewInt(2)),
		bytesOf(big.NewInt(7)),
		bytesOf(beyond(-2)),
		odd(big.NewInt(1)), // X would be 0, and odd
		odd(beyond(-1)),
		bytesOf(prime), // Y is not below P
		odd(prime),
		bytesOf(beyond(1)),
		odd(beyond(1)),
		bytesOf(beyond(3)),
		odd(beyond(3)),
		bytesOf(beyond(18)),
		odd(beyond(18)),
	}
}

// The values were made in another language by the document's words alone, without the project's packages.
func TestP170MadeApart(t *testing.T) {
	for i, c := range []struct{ seed, secret, mask, public string }{
		{
			"0000000000000000000000000000000000000000000000000000000000000000",
			"5a6caced9a835c18857a4cdc7f310c954489f2631bf9168cfe3a89a82b19d406",
			"523ba5a7ec9362dbb08039a387922592ccea3dde63634480cd1b05b7bd50a269",
			"039340e9238d5c3ac768eaf5ae4a2b8dd0ba1cd4878e9c235a95e2f93971f9bc",
		},
		{
			"000102030405060708090a0b0c0d0e0f101112131415161718191a1b1c1d1e1f",
			"938a65b4842dfdc1394180fc11c72823208e23410e175b8f61ee91b16b1efd0f",
			"121e01fd47d8c2ecdb10fa6f0a51a97a48cebd0de5231f274f5076a03e371868",
			"e41b1208d051ad9efe8529d0b88fc72f0b29bb8b0d257ef55bcf53e75bca60d6",
		},
		{
			"ffffffffffffffffffffffffffffffffffffffffffffffffffffffffffffffff",
			"28a0b10b43cbdd6694dab583804aa4b09f5db6adcd334c54ad9f0626d9eecc01",
			"59291664ad78f2106de46e857837631aa89c881c064bd1690e37b08e78f85770",
			"7eece4afe218d278255c062c4ef57a2ab133152c9e9a0a25d3028d3ad4bff0a6",
		},
	} {
		want := api.Pair{
			Secret: numOf(valueOf(unhex(t, c.secret))),
			Mask:   [32]byte(unhex(t, c.mask)),
			Public: [32]byte(unhex(t, c.public)),
		}
		if got := sign.New([32]byte(unhex(t, c.seed))); got != want {
			t.Errorf("%d: New = %x; want %x", i, got, want)
		}
	}
}

func TestP170Pairs(t *testing.T) {
	s := drawn(1)
	for i := range 200 {
		seed := s.seed()
		if i < 20 {
			seed = [32]byte{}
			seed[i] = byte(i)
		}
		got, want := sign.New(seed), pairOf(t, seed)
		if got != want || num(got.Secret).Cmp(modulus) >= 0 {
			t.Errorf("New(%x) = %x; want %x", seed, got, want)
		}
		if p, e := curve.Unpack(got.Public); e != api.OK || p != times(t, num(got.Secret), curve.Base()) {
			t.Errorf("New(%x): Public is Pack of %x, %v", seed, p, e)
		}
	}
}

// Each bit of the seed counts, for each part of the pair.
func TestP170EachBitOfTheSeed(t *testing.T) {
	seed := drawn(2).seed()
	all := []api.Pair{sign.New(seed)}
	for i := range 256 {
		near := seed
		near[i/8] ^= 1 << (i % 8)
		pair := sign.New(near)
		if want := pairOf(t, near); pair != want {
			t.Errorf("New(%x) = %x; want %x", near, pair, want)
		}
		for _, other := range all {
			if pair.Secret == other.Secret || pair.Mask == other.Mask || pair.Public == other.Public {
				t.Errorf("bit %d: %x has a part of %x", i, pair, other)
			}
		}
		all = append(all, pair)
	}
}

// These, too, were made in another language.
func TestP171MadeApart(t *testing.T) {
	for i, c := range []struct{ seed, text, sig string }{
		{
			"0000000000000000000000000000000000000000000000000000000000000000", "",
			"ea141763e7c2712b80bdeb547a90ff8b5e908e89b83bee89822534e4e4c34ac1" +
				"ecbc47051757b8f6e16958d84bd2bfe6364df8c10ac31f97cb259e4250fb6806",
		},
		{
			"000102030405060708090a0b0c0d0e0f101112131415161718191a1b1c1d1e1f", "abc",
			"f97c8e1063543e8909e730e419442af2ca3b5c7e21ab65ba19e7306cc4f3697d" +
				"58f132f5ba9c8aa3f8bed820a8f10738fd7071380aa078b4d5c52925cd294208",
		},
		{
			"ffffffffffffffffffffffffffffffffffffffffffffffffffffffffffffffff", "a text that is signed",
			"54c49accb6d4146d163370a69d4b33e5a5af54350995db326108b5c1de990491" +
				"e6eb9d52a8da60e3652e1a5f26a4a66cdf439dbae077875d31347ae70de97f04",
		},
	} {
		seed, want := [32]byte(unhex(t, c.seed)), [64]byte(unhex(t, c.sig))
		if got := sign.Sign(seed, []byte(c.text)); got != want {
			t.Errorf("%d: Sign = %x; want %x", i, got, want)
		}
		wantVerify(t, "made apart", api.Signed{Public: sign.New(seed).Public, Text: []byte(c.text), Sig: want[:]}, api.OK)
	}
}

func checkSign(t *testing.T, seed [32]byte, p []byte) {
	t.Helper()
	got, want := sign.Sign(seed, p), signOf(t, seed, p)
	if got != want {
		t.Errorf("Sign(%x, %x) = %x; want %x", seed, p, got, want)
	}
	wantVerify(t, "what was signed", api.Signed{Public: sign.New(seed).Public, Text: p, Sig: got[:]}, api.OK)
}

func TestP171EachLength(t *testing.T) {
	s := drawn(3)
	for n := range 100 {
		checkSign(t, s.seed(), s.bytes(n))
	}
	for _, n := range []int{255, 256, 1000, 4096, 65536, 70000} {
		checkSign(t, s.seed(), s.bytes(n))
	}
	checkSign(t, s.seed(), nil)
	checkSign(t, [32]byte{}, []byte{})
}

func TestP171NumberIsBelowL(t *testing.T) {
	s := drawn(4)
	for range 100 {
		sig := sign.Sign(s.seed(), s.bytes(9))
		if number := valueOf(sig[32:]); number.Cmp(modulus) >= 0 {
			t.Errorf("%x is not below L", number)
		}
	}
}

// Two signatures with one R would tell the secret: each text, and each seed, has its own.
func TestP171EachHasItsOwnR(t *testing.T) {
	s := drawn(5)
	text, seed := s.bytes(20), s.seed()
	of := map[[32]byte]string{}
	keep := func(what string, sig [64]byte) {
		t.Helper()
		if before, ok := of[[32]byte(sig[:32])]; ok {
			t.Errorf("%s: R of %s", what, before)
		}
		of[[32]byte(sig[:32])] = what
	}
	keep("text", sign.Sign(seed, text))
	for i := range 8 * len(text) {
		near := slices.Clone(text)
		near[i/8] ^= 1 << (i % 8)
		keep("a text's bit", sign.Sign(seed, near))
	}
	for n := range len(text) {
		keep("a shorter text", sign.Sign(seed, text[:n]))
	}
	for i := range 256 {
		near := seed
		near[i/8] ^= 1 << (i % 8)
		keep("a seed's bit", sign.Sign(near, text))
	}
}

func TestP172EachLengthOfSig(t *testing.T) {
	s := drawn(6)
	x := signed(s.seed(), []byte("text"))
	long := append(slices.Clone(x.Sig), s.bytes(200)...)
	for n := range len(long) {
		y := api.Signed{Public: x.Public, Text: x.Text, Sig: long[:n]}
		want := api.ErrArg
		if n == 64 {
			want = api.OK
		}
		wantVerify(t, "cut", y, want)
		wantBatch(t, "cut", []api.Signed{y}, []api.Num{{1}}, want)
		// ErrArg comes ahead of ErrForm.
		y.Public = packOfNone()[n%len(packOfNone())]
		if n == 64 {
			want = api.ErrForm
		}
		wantVerify(t, "cut, public of none", y, want)
		wantBatch(t, "cut, public of none", []api.Signed{y}, []api.Num{{1}}, want)
	}
	for _, sig := range [][]byte{nil, {}, make([]byte, 63), make([]byte, 65), make([]byte, 128)} {
		wantVerify(t, "of other length", api.Signed{Public: x.Public, Text: x.Text, Sig: sig}, api.ErrArg)
	}
}

func TestP172PackOfNone(t *testing.T) {
	x := signed(drawn(7).seed(), []byte("text"))
	s := valueOf(x.Sig[32:])
	for _, b := range packOfNone() {
		if isPack(b[:]) {
			t.Errorf("%x is Pack of a point", b)
		}
		public := copied(x)
		public.Public = b
		for _, y := range []api.Signed{
			public, withFirst(x, b), withFirst(public, b),
			// ErrForm comes ahead of ErrSum.
			withNumber(public, plus(s, one)), withNumber(withFirst(x, b), nought),
		} {
			wantVerify(t, "Pack of none", y, api.ErrForm)
			wantBatch(t, "Pack of none", []api.Signed{y}, []api.Num{{1}}, api.ErrForm)
			wantBatch(t, "Pack of none, taken 0 times", []api.Signed{y}, []api.Num{{}}, api.ErrForm)
		}
	}
}

func TestP172NumberBesideL(t *testing.T) {
	x := signed(drawn(8).seed(), []byte("text"))
	s := valueOf(x.Sig[32:])
	for _, c := range []struct {
		number *big.Int
		want   api.Errno
	}{
		{s, api.OK},
		{plus(s, modulus), api.ErrForm},
		{plus(s, product(modulus, big.NewInt(2))), api.ErrForm},
		{plus(s, product(modulus, big.NewInt(14))), api.ErrForm},
		{plus(s, power2(253)), api.ErrForm},
		{plus(s, power2(255)), api.ErrForm},
		{less(modulus, one), api.ErrSum},
		{modulus, api.ErrForm},
		{plus(modulus, one), api.ErrForm},
		{power2(252), api.ErrSum},
		{power2(253), api.ErrForm},
		{power2(255), api.ErrForm},
		{less(power2(256), one), api.ErrForm},
		{nought, api.ErrSum},
		{one, api.ErrSum},
		{plus(s, one), api.ErrSum},
		{less(s, one), api.ErrSum},
		{less(modulus, s), api.ErrSum},
	} {
		y := withNumber(x, c.number)
		wantVerify(t, "number", y, c.want)
		wantBatch(t, "number", []api.Signed{y}, []api.Num{{1}}, c.want)
	}
}

// With Zero for R and for A, the number has to be 0 alone: L, which is as much modulo L, is none.
func TestP172Zero(t *testing.T) {
	small := eighths(t)
	zero := pack(t, curve.Zero())
	x := api.Signed{Public: zero, Text: []byte("any"), Sig: append(zero[:], make([]byte, 32)...)}
	wantVerify(t, "Zero", x, api.OK)
	wantVerify(t, "Zero, 1", withNumber(x, one), api.ErrSum)
	wantVerify(t, "Zero, L - 1", withNumber(x, less(modulus, one)), api.ErrSum)
	for n := range int64(16) {
		v := product(modulus, big.NewInt(n))
		if n > 0 && v.BitLen() <= 256 {
			wantVerify(t, "Zero, a multiple of L", withNumber(x, v), api.ErrForm)
		}
	}
	for _, p := range small[1:] {
		wantVerify(t, "an eighth for R", withFirst(x, pack(t, p)), api.ErrSum)
	}
	s := drawn(9)
	for range 10 {
		n := s.below()
		y := withFirst(withNumber(x, n), packedBase(t, n))
		wantVerify(t, "Zero for A alone", y, api.OK)
		wantVerify(t, "Zero for A alone, and another number", withNumber(y, mod(plus(n, one))), api.ErrSum)
	}
}

// What others put where it does not belong is no signature.
func TestP172OfAnother(t *testing.T) {
	s := drawn(10)
	seed, other := s.seed(), s.seed()
	x := signed(seed, []byte("text"))
	byOther := signed(other, []byte("text"))
	public := copied(x)
	public.Public = byOther.Public
	wantVerify(t, "another's public one", public, api.ErrSum)
	wantVerify(t, "another's R", withFirst(x, [32]byte(byOther.Sig)), api.ErrSum)
	wantVerify(t, "another's number", withNumber(x, valueOf(byOther.Sig[32:])), api.ErrSum)
	for _, p := range []string{"", "t", "tex", "texts", "Text", " text", "text\x00", "\x00text", "texttext"} {
		y := copied(x)
		y.Text = []byte(p)
		wantVerify(t, "another text", y, api.ErrSum)
	}
	y := copied(x)
	y.Sig = append(slices.Clone(x.Sig[32:]), x.Sig[:32]...)
	wantVerify(t, "halves changed over", y, verifyOf(t, y))
	if verify(y) == api.OK {
		t.Error("halves changed over: OK")
	}
	for _, y := range []api.Signed{{}, {Sig: make([]byte, 64)}, {Public: x.Public, Sig: make([]byte, 64)}} {
		if want := verifyOf(t, y); want == api.OK {
			t.Errorf("%x is a signature", y)
		} else {
			wantVerify(t, "no signature", y, want)
		}
	}
}

// Each bit that is turned, wherever it stands, makes of it no signature, and the error is the document's.
func TestP172EachBitTurned(t *testing.T) {
	x := signed(drawn(11).seed(), []byte("twelve bytes"))
	check := func(what string, i int, y api.Signed, fits bool) {
		t.Helper()
		want := api.ErrSum
		if !fits {
			want = api.ErrForm
		}
		wantVerify(t, what, y, want)
		if i%16 == 5 {
			wantBatch(t, what, []api.Signed{x, y}, []api.Num{{5}, {6}}, want)
		}
	}
	for i := range 8 * len(x.Text) {
		y := copied(x)
		y.Text[i/8] ^= 1 << (i % 8)
		check("text", i, y, true)
	}
	for i := range 256 {
		y := copied(x)
		y.Public[i/8] ^= 1 << (i % 8)
		check("public", i, y, isPack(y.Public[:]))
		y = copied(x)
		y.Sig[i/8] ^= 1 << (i % 8)
		check("R", i, y, isPack(y.Sig[:32]))
		y = copied(x)
		y.Sig[32+i/8] ^= 1 << (i % 8)
		check("number", i, y, valueOf(y.Sig[32:]).Cmp(modulus) < 0)
	}
}

// Points that are Zero when taken 8 times count as all others do: neither R nor A is rid of them.
func TestP172Eighths(t *testing.T) {
	s := drawn(12)
	kinds := map[api.Errno]int{}
	for inA := range 8 {
		for inR := range 8 {
			b := bend(t, s, inA, inR, nought)
			if verifyOf(t, b.Signed) != b.want() {
				t.Fatalf("%d, %d: what is wrong in %x is not known", inA, inR, b.Signed)
			}
			kinds[b.want()]++
			wantVerify(t, "eighths", b.Signed, b.want())
			wantBatch(t, "eighths", signedOf([]bent{b}), []api.Num{{1}}, b.want())
			wantBatch(t, "eighths, taken 8 times", signedOf([]bent{b}), []api.Num{{8}}, api.OK)
			wantVerify(t, "eighths, and too many", bend(t, s, inA, inR, one).Signed, api.ErrSum)
		}
	}
	if kinds[api.OK] < 4 || kinds[api.ErrSum] < 40 {
		t.Errorf("the answers are %v", kinds)
	}
}

func TestP172BatchOfNone(t *testing.T) {
	for _, l := range [][]api.Signed{nil, {}} {
		for _, w := range [][]api.Num{nil, {}} {
			wantBatch(t, "none", l, w, api.OK)
		}
	}
	wantBatch(t, "none, a weight", nil, []api.Num{{}}, api.ErrArg)
	wantBatch(t, "none, 21 weights", nil, make([]api.Num, 21), api.ErrArg)
}

func TestP172BatchOfAll(t *testing.T) {
	s := drawn(13)
	all := anySigned(s, api.MaxBatch)
	for n := range api.MaxBatch + 1 {
		weights := make([]api.Num, n)
		for i := range weights {
			weights[i] = s.num()
		}
		wantBatch(t, "all of them right", all[:n], weights, api.OK)
		if n == 0 {
			continue
		}
		near := slices.Clone(all[:n])
		last := &near[n-1]
		*last = copied(*last)
		last.Text = append(last.Text, 0)
		wantBatch(t, "the last one wrong", near, weights, api.ErrSum)
		weights[n-1] = api.Num{}
		wantBatch(t, "the last one wrong, taken 0 times", near, weights, api.OK)
		last.Sig = last.Sig[:63]
		wantBatch(t, "the last one short", near, weights, api.ErrArg)
	}
}

func TestP172BatchEachPlaceWrong(t *testing.T) {
	s := drawn(14)
	all := anySigned(s, 4)
	weights := []api.Num{s.num(), {1}, top, s.num()}
	for i := range all {
		near := slices.Clone(all)
		for _, y := range []struct {
			what string
			x    api.Signed
			want api.Errno
		}{
			{"number", withNumber(all[i], mod(plus(valueOf(all[i].Sig[32:]), one))), api.ErrSum},
			{"text", api.Signed{Public: all[i].Public, Text: []byte("other"), Sig: all[i].Sig}, api.ErrSum},
			{"public", api.Signed{Public: all[(i+1)%4].Public, Text: all[i].Text, Sig: all[i].Sig}, api.ErrSum},
			{"R", withFirst(all[i], [32]byte(all[(i+1)%4].Sig)), api.ErrSum},
			{"number above", withNumber(all[i], plus(valueOf(all[i].Sig[32:]), modulus)), api.ErrForm},
			{"public of none", api.Signed{Public: packOfNone()[0], Text: all[i].Text, Sig: all[i].Sig}, api.ErrForm},
			{"R of none", withFirst(all[i], packOfNone()[0]), api.ErrForm},
			{"short", api.Signed{Public: all[i].Public, Text: all[i].Text, Sig: all[i].Sig[:63]}, api.ErrArg},
			{"zero value", api.Signed{}, api.ErrArg},
		} {
			near[i] = y.x
			wantBatch(t, y.what, near, weights, y.want)
		}
	}
}

func TestP172BatchTooMany(t *testing.T) {
	s := drawn(15)
	all := anySigned(s, 25)
	weights := make([]api.Num, 25)
	for n := 21; n <= 25; n++ {
		wantBatch(t, "too many", all[:n], weights[:n], api.ErrLarge)
		// ErrLarge comes ahead of all else.
		wantBatch(t, "too many, and no weights", all[:n], nil, api.ErrLarge)
		wantBatch(t, "too many, and too few weights", all[:n], weights[:20], api.ErrLarge)
		wantBatch(t, "too many, and none of them right", make([]api.Signed, n), weights[:n], api.ErrLarge)
	}
	wantBatch(t, "far too many", make([]api.Signed, 100000), nil, api.ErrLarge)
	wantBatch(t, "as many as may be", all[5:], weights[:20], api.OK)
}

func TestP172BatchWeights(t *testing.T) {
	all := anySigned(drawn(16), 5)
	broken := slices.Clone(all)
	broken[0] = api.Signed{Public: packOfNone()[0], Sig: make([]byte, 64)}
	for n := range 23 {
		if n == len(all) {
			continue
		}
		wantBatch(t, "other weights", all, make([]api.Num, n), api.ErrArg)
		// ErrArg comes ahead of what is wrong in an element.
		wantBatch(t, "other weights", broken, make([]api.Num, n), api.ErrArg)
	}
	wantBatch(t, "no weights", all, nil, api.ErrArg)
	wantBatch(t, "as many weights", all, make([]api.Num, 5), api.OK)
	wantBatch(t, "as many weights", broken, make([]api.Num, 5), api.ErrForm)
}

// The first element that has an error tells it, and any error comes ahead of ErrSum.
func TestP172BatchOrder(t *testing.T) {
	all := anySigned(drawn(17), 2)
	short := copied(all[0])
	short.Sig = short.Sig[:63]
	wrong := copied(all[0])
	wrong.Text = []byte("other")
	form := copied(all[0])
	form.Public = packOfNone()[0]
	above := withNumber(all[0], modulus)
	both := copied(form)
	both.Sig = nil
	right := all[1]
	for i, c := range []struct {
		l    []api.Signed
		want api.Errno
	}{
		{[]api.Signed{short, form}, api.ErrArg},
		{[]api.Signed{form, short}, api.ErrForm},
		{[]api.Signed{above, short}, api.ErrForm},
		{[]api.Signed{short, above}, api.ErrArg},
		{[]api.Signed{both, form}, api.ErrArg},
		{[]api.Signed{form, both}, api.ErrForm},
		{[]api.Signed{wrong, short}, api.ErrArg},
		{[]api.Signed{wrong, form}, api.ErrForm},
		{[]api.Signed{wrong, above}, api.ErrForm},
		{[]api.Signed{right, wrong, above, short}, api.ErrForm},
		{[]api.Signed{right, wrong, short, above}, api.ErrArg},
		{[]api.Signed{right, wrong}, api.ErrSum},
		{[]api.Signed{wrong, right}, api.ErrSum},
	} {
		weights := make([]api.Num, len(c.l))
		for j := range weights {
			weights[j] = api.Num{uint64(j + 1)}
		}
		if got := sign.Batch(c.l, weights); got != c.want {
			t.Errorf("%d: %v; want %v", i, got, c.want)
		}
	}
}

// A weight counts as it stands: modulo L where Base is taken, but whole where a point with eighths is.
func TestP172BatchWeightsAreWhole(t *testing.T) {
	s := drawn(18)
	eight := product(modulus, big.NewInt(8))
	var weights []api.Num
	for n := range int64(10) {
		for _, v := range []*big.Int{big.NewInt(n), product(modulus, big.NewInt(n)), plus(eight, big.NewInt(n)), less(power2(256), big.NewInt(n+1))} {
			if v.BitLen() <= 256 {
				weights = append(weights, numOf(v))
			}
		}
	}
	weights = append(weights, s.num(), s.num(), api.Num{0, 1}, api.Num{0, 0, 1}, api.Num{0, 0, 0, 1}, api.Num{3: 1 << 63})
	cases := []bent{
		bend(t, s, 0, 0, nought), bend(t, s, 0, 0, one), bend(t, s, 0, 1, nought), bend(t, s, 0, 2, nought),
		bend(t, s, 0, 4, nought), bend(t, s, 0, 3, one), bend(t, s, 5, 1, s.below()),
	}
	kinds := map[api.Errno]int{}
	for _, b := range cases {
		for _, w := range weights {
			want := wantOf([]bent{b}, []api.Num{w})
			kinds[want]++
			wantBatch(t, "one weight", signedOf([]bent{b}), []api.Num{w}, want)
		}
	}
	if kinds[api.OK] < 60 || kinds[api.ErrSum] < 100 {
		t.Errorf("the answers are %v", kinds)
	}
}

// What is wrong may be made up for by another that is wrong, with its weight: the sums alone count.
func TestP172BatchMadeUpFor(t *testing.T) {
	s := drawn(19)
	for range 12 {
		w, v, by := s.num(), s.num(), s.below()
		// v and minus w times as much: w * (v * by) + v * (-w * by) is 0.
		first := bend(t, s, 0, 0, product(num(v), by))
		second := bend(t, s, 0, 0, product(num(w), less(modulus, by)))
		l := []bent{first, bend(t, s, 0, 0, nought), second}
		weights := []api.Num{w, s.num(), v}
		wantBatch(t, "made up for", signedOf(l), weights, api.OK)
		wantVerify(t, "alone", first.Signed, api.ErrSum)
		wantVerify(t, "alone", second.Signed, api.ErrSum)
		weights[0][s.IntN(4)] ^= 1 << s.IntN(64)
		wantBatch(t, "other weight", signedOf(l), weights, wantOf(l, weights))
		weights[0], weights[2] = v, w
		wantBatch(t, "weights changed over", signedOf(l), weights, wantOf(l, weights))
	}
}

func TestP172BatchEighthsMadeUpFor(t *testing.T) {
	s := drawn(20)
	kinds := map[api.Errno]int{}
	for range 60 {
		var l []bent
		var weights []api.Num
		for range 1 + s.IntN(4) {
			l = append(l, bend(t, s, s.IntN(8), s.IntN(8), nought))
			weights = append(weights, s.num())
		}
		want := wantOf(l, weights)
		kinds[want]++
		wantBatch(t, "eighths", signedOf(l), weights, want)
	}
	if kinds[api.OK] < 3 || kinds[api.ErrSum] < 20 {
		t.Errorf("the answers are %v", kinds)
	}
}

// The same element more than once counts each time.
func TestP172BatchTwiceTheSame(t *testing.T) {
	s := drawn(21)
	wrong := bend(t, s, 0, 0, s.below())
	minus := numOf(less(modulus, big.NewInt(7)))
	wantBatch(t, "less than 0", signedOf([]bent{wrong, wrong}), []api.Num{{7}, minus}, api.OK)
	wantBatch(t, "twice", signedOf([]bent{wrong, wrong}), []api.Num{{7}, {7}}, api.ErrSum)
	right := bend(t, s, 0, 0, nought)
	wantBatch(t, "twice", signedOf([]bent{right, right}), []api.Num{top, top}, api.OK)
}

// Whatever is asked, there is an answer, and it is the document's.
func TestP1AnyBytes(t *testing.T) {
	s := drawn(22)
	x := signed(s.seed(), []byte("text"))
	for range 300 {
		y := api.Signed{Public: s.seed(), Text: s.bytes(s.IntN(40)), Sig: s.bytes(64)}
		if s.IntN(2) == 0 {
			y.Public = x.Public
		}
		if s.IntN(2) == 0 {
			copy(y.Sig, x.Sig[:32])
		}
		if s.IntN(2) == 0 {
			y.Sig[63] &= 15
		}
		y.Sig = y.Sig[:64-s.IntN(10)/9]
		want := verifyOf(t, y)
		wantVerify(t, "any bytes", y, want)
		wantBatch(t, "any bytes", []api.Signed{y}, []api.Num{{1}}, want)
	}
}

// withRoom: p with more behind it, and all of that memory.
func withRoom(p []byte) ([]byte, []byte) {
	all := append(slices.Clone(p), bytes.Repeat([]byte{170}, 200)...)
	return all[:len(p)], all
}

func same(x, y api.Signed) bool {
	return x.Public == y.Public && bytes.Equal(x.Text, y.Text) && bytes.Equal(x.Sig, y.Sig)
}

func TestP2ListsStayAndRoomIsNotRead(t *testing.T) {
	s := drawn(23)
	seed := s.seed()
	for _, n := range []int{0, 1, 31, 32, 63, 64, 65, 200} {
		text, allText := withRoom(s.bytes(n))
		beforeText := slices.Clone(allText)
		x := signed(seed, text)
		if got := sign.Sign(seed, text); !bytes.Equal(got[:], x.Sig) || !bytes.Equal(allText, beforeText) {
			t.Errorf("%d bytes: %x, %x", n, got, allText)
		}
		sig, allSig := withRoom(x.Sig)
		beforeSig := slices.Clone(allSig)
		room := []api.Signed{{Public: x.Public, Text: text, Sig: sig}, {Public: x.Public}}
		weights := []api.Num{{3}, top}
		if e := sign.Verify(x.Public, text, sig); e != api.OK {
			t.Errorf("%d bytes, with room behind them: %v", n, e)
		}
		wantBatch(t, "with room behind", room[:1], weights[:1], api.OK)
		first := api.Signed{Public: x.Public, Text: text, Sig: sig}
		if !same(room[0], first) || !same(room[1], api.Signed{Public: x.Public}) || weights[0] != (api.Num{3}) || weights[1] != top {
			t.Errorf("%d bytes: the lists are changed: %x, %x", n, room, weights)
		}
		if !bytes.Equal(allText, beforeText) || !bytes.Equal(allSig, beforeSig) {
			t.Errorf("%d bytes, or the room behind them, are changed", n)
		}
	}
}

type answers struct {
	pair       api.Pair
	sig        [64]byte
	one, batch api.Errno
}

func askAll(seed [32]byte, p []byte, x api.Signed) answers {
	return answers{sign.New(seed), sign.Sign(seed, p), verify(x), sign.Batch([]api.Signed{x}, []api.Num{{1}})}
}

func TestP2AskedAgain(t *testing.T) {
	s := drawn(24)
	all := anySigned(s, 12)
	all = append(all, api.Signed{}, withNumber(all[1], modulus), withNumber(all[2], one), withFirst(all[3], packOfNone()[0]))
	seeds := make([][32]byte, len(all))
	var first []answers
	for i, x := range all {
		seeds[i] = s.seed()
		first = append(first, askAll(seeds[i], x.Text, x))
	}
	for i := len(all) - 1; i >= 0; i-- {
		if again := askAll(seeds[i], all[i].Text, all[i]); again != first[i] {
			t.Errorf("%d, asked again: %x; want %x", i, again, first[i])
		}
	}
}
