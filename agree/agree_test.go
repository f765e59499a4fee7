package agree_test

import (
	"crypto/ecdh"
	"encoding/hex"
	"math/big"
	"math/rand/v2"
	"slices"
	"testing"

	"sealring/agree"
	"sealring/api"
	"sealring/curve"
	"sealring/ladder"
)

// The numbers of the document, worked out by its own words and not by the project's packages.
var (
	one     = big.NewInt(1)
	modulus = less(power2(255), big.NewInt(19))
	full    = less(power2(256), one)
)

// So often a point of Base's kind makes Zero; and so often what is of the like kind beside the curve comes to 0.
var (
	often  = plus(power2(252), decimal("27742317777372353535851937790883648493"))
	beside = less(power2(253), decimal("55484635554744707071703875581767296995"))
)

// The numbers of the points that are Zero when taken 8 times, and of no fewer.
const (
	eighth      = "325606250916557431795983626356110631294008115727848805560023387167927233504"
	otherEighth = "39382357235489614581723060781553021112529911719440698176882885853963445705823"
)

func power2(n uint) *big.Int { return new(big.Int).Lsh(one, n) }

func decimal(text string) *big.Int {
	v, _ := new(big.Int).SetString(text, 10)
	return v
}

func plus(a, b *big.Int) *big.Int { return new(big.Int).Add(a, b) }

func less(a, b *big.Int) *big.Int { return new(big.Int).Sub(a, b) }

// product modulo P.
func product(a, b *big.Int) *big.Int {
	v := new(big.Int).Mul(a, b)
	return v.Mod(v, modulus)
}

// valueOf bytes, the least first.
func valueOf(b [32]byte) *big.Int {
	slices.Reverse(b[:])
	return new(big.Int).SetBytes(b[:])
}

func bytesOf(v *big.Int) [32]byte {
	var b [32]byte
	v.FillBytes(b[:])
	slices.Reverse(b[:])
	return b
}

func numOf(v *big.Int) api.Num {
	var a api.Num
	for i := range a {
		a[i] = new(big.Int).Rsh(v, uint(64*i)).Uint64()
	}
	return a
}

func valueOfNum(a api.Num) *big.Int {
	v := new(big.Int)
	for i := range a {
		v.Or(v, new(big.Int).Lsh(new(big.Int).SetUint64(a[i]), uint(64*i)))
	}
	return v
}

func unhex(t *testing.T, text string) [32]byte {
	t.Helper()
	b, err := hex.DecodeString(text)
	if err != nil || len(b) != 32 {
		t.Fatalf("%q: %v", text, err)
	}
	return [32]byte(b)
}

func drawn(seed uint64, count int) [][32]byte {
	r := rand.New(rand.NewPCG(18, seed))
	out := make([][32]byte, count)
	for i := range out {
		for j := range out[i] {
			out[i][j] = byte(r.Uint32())
		}
	}
	return out
}

// turned: b with bit i turned.
func turned(b [32]byte, i int) [32]byte {
	b[i/8] ^= 1 << (i % 8)
	return b
}

// counts: does bit i of a secret count?
func counts(i int) bool { return i > 2 && i < 254 }

// clampOf a secret, as P180 tells it.
func clampOf(secret [32]byte) *big.Int {
	v := valueOf(secret)
	for _, i := range []int{0, 1, 2, 255} {
		v.SetBit(v, i, 0)
	}
	return v.SetBit(v, 254, 1)
}

// pair of chapter 16: X and Z.
type pair struct{ x, z *big.Int }

func twiceOf(p pair) pair {
	s, t := plus(p.x, p.z), less(p.x, p.z)
	s, t = product(s, s), product(t, t)
	e := less(s, t)
	return pair{product(s, t), product(e, plus(s, product(big.NewInt(121665), e)))}
}

func joinedOf(p, q pair, u *big.Int) pair {
	a := product(plus(q.x, q.z), less(p.x, p.z))
	b := product(less(q.x, q.z), plus(p.x, p.z))
	x, z := plus(a, b), less(a, b)
	return pair{product(x, x), product(u, product(z, z))}
}

// ladderOf k and u, as P160 tells it.
func ladderOf(k, u *big.Int) *big.Int {
	q, r := pair{one, new(big.Int)}, pair{u, one}
	for i := 255; i >= 0; i-- {
		both := joinedOf(q, r, u)
		if k.Bit(i) == 0 {
			q, r = twiceOf(q), both
		} else {
			q, r = both, twiceOf(r)
		}
	}
	if q.z.Sign() == 0 {
		return q.z // Inv of 0 is 0.
	}
	return product(q.x, new(big.Int).ModInverse(q.z, modulus))
}

// sharedOf a secret and a public one, as P181 tells it.
func sharedOf(secret, public [32]byte) ([32]byte, api.Errno) {
	u := valueOf(public)
	v := ladderOf(clampOf(secret), u.SetBit(u, 255, 0))
	if v.Sign() == 0 {
		return [32]byte{}, api.ErrArg
	}
	return bytesOf(v), api.OK
}

func checkClamp(t *testing.T, secret [32]byte, want *big.Int) {
	t.Helper()
	if got := agree.Clamp(secret); got != numOf(want) {
		t.Errorf("Clamp(%x) = %x; want %x", secret, got, numOf(want))
	}
}

func checkPublic(t *testing.T, secret, want [32]byte) {
	t.Helper()
	if got := agree.Public(secret); got != want {
		t.Errorf("Public(%x) = %x; want %x", secret, got, want)
	}
}

func wantShared(t *testing.T, secret, public, want [32]byte) {
	t.Helper()
	if got, e := agree.Shared(secret, public); got != want || e != api.OK {
		t.Errorf("Shared(%x, %x) = %x, %d; want %x, OK", secret, public, got, e, want)
	}
}

func wantErrArg(t *testing.T, secret, public [32]byte) {
	t.Helper()
	if got, e := agree.Shared(secret, public); got != [32]byte{} || e != api.ErrArg {
		t.Errorf("Shared(%x, %x) = %x, %d; want 0, ErrArg", secret, public, got, e)
	}
}

func checkShared(t *testing.T, secret, public [32]byte) {
	t.Helper()
	want, e := sharedOf(secret, public)
	if got, f := agree.Shared(secret, public); got != want || f != e {
		t.Errorf("Shared(%x, %x) = %x, %d; want %x, %d", secret, public, got, f, want, e)
	}
}

// edges: secrets with few ones, or few others, beside the bits that are set for them, and drawn ones.
func edges() [][32]byte {
	return append(drawn(1, 4),
		[32]byte{}, bytesOf(full), [32]byte{1}, [32]byte{7}, [32]byte{8}, [32]byte{9}, [32]byte{248},
		[32]byte{31: 63}, [32]byte{31: 64}, [32]byte{31: 127}, [32]byte{31: 128}, [32]byte{31: 192}, [32]byte{31: 255},
	)
}

// smalls: the numbers below 2^255 that are those of points that are Zero when taken 8 times.
func smalls() []*big.Int {
	return []*big.Int{
		new(big.Int), one, decimal(eighth), decimal(otherEighth), less(modulus, one), modulus, plus(modulus, one),
	}
}

// either: the bytes of v, which is below 2^255, without bit 255 and with it.
func either(v *big.Int) [][32]byte { return [][32]byte{bytesOf(v), bytesOf(plus(v, power2(255)))} }

func TestP180Examples(t *testing.T) {
	least, most := power2(254), less(power2(255), big.NewInt(8))
	for _, c := range []struct {
		secret [32]byte
		want   *big.Int
	}{
		{[32]byte{}, least},
		{[32]byte{1}, least},
		{[32]byte{2}, least},
		{[32]byte{4}, least},
		{[32]byte{7}, least},
		{[32]byte{8}, plus(least, big.NewInt(8))},
		{[32]byte{9}, plus(least, big.NewInt(8))},
		{[32]byte{255}, plus(least, big.NewInt(248))},
		{[32]byte{1: 7}, plus(least, big.NewInt(7*256))},
		{[32]byte{30: 255}, plus(least, less(power2(248), power2(240)))},
		{[32]byte{31: 32}, plus(least, power2(253))},
		{[32]byte{31: 63}, less(power2(255), power2(248))},
		{[32]byte{31: 64}, least},
		{[32]byte{31: 128}, least},
		{[32]byte{31: 192}, least},
		{[32]byte{31: 255}, less(power2(255), power2(248))},
		{bytesOf(full), most},
		{bytesOf(most), most},
		{bytesOf(least), least},
		{bytesOf(modulus), less(power2(255), big.NewInt(24))},
	} {
		checkClamp(t, c.secret, c.want)
	}
}

func TestP180EachBit(t *testing.T) {
	for _, secret := range edges() {
		plain := agree.Clamp(secret)
		for i := range 256 {
			got := agree.Clamp(turned(secret, i))
			want := plain
			if counts(i) {
				want[i/64] ^= 1 << (i % 64)
			}
			if got != want {
				t.Errorf("bit %d of %x turned: %x; want %x", i, secret, got, want)
			}
		}
	}
}

func TestP180EachByte(t *testing.T) {
	for _, secret := range drawn(2, 2) {
		for i := range secret {
			for value := range 256 {
				b := secret
				b[i] = byte(value)
				checkClamp(t, b, clampOf(b))
			}
		}
	}
}

func TestP180Drawn(t *testing.T) {
	for _, secret := range append(edges(), drawn(3, 2000)...) {
		checkClamp(t, secret, clampOf(secret))
	}
}

// Two pairs of keys that others publish, with what they have together.
const (
	firstSecret  = "77076d0a7318a57d3c16c17251b26645df4c2f87ebc0992ab177fba51db92c2a"
	firstPublic  = "8520f0098930a754748b7ddcb43ef75a0dbf3a0d26381af4eba4a98eaa9b4e6a"
	secondSecret = "5dab087e624a8a4b79e17f8b83800ee66f3bb1292618b6fd1c2f8b27ff88e0eb"
	secondPublic = "de9edb7d7b7dc1b4d35b61c2ece435373f8343c85b78674dadfc7e146f882b4f"
	together     = "4a5d9d5ba4ce2de1728e3bf480350f25e07e21c947d19e3376f09b3c1e161742"
)

func TestP181AsOthersHaveIt(t *testing.T) {
	checkPublic(t, unhex(t, firstSecret), unhex(t, firstPublic))
	checkPublic(t, unhex(t, secondSecret), unhex(t, secondPublic))
	wantShared(t, unhex(t, firstSecret), unhex(t, secondPublic), unhex(t, together))
	wantShared(t, unhex(t, secondSecret), unhex(t, firstPublic), unhex(t, together))
	for _, c := range []struct{ secret, public, want string }{
		{
			"a546e36bf0527c9d3b16154b82465edd62144c0ac1fc5a18506a2244ba449ac4",
			"e6db6867583030db3594c1a424b15f7c726624ec26b3353b10a903a6d0ab1c4c",
			"c3da55379de9c6908e94ea4df28d084f32eccf03491c71f754b4075577a28552",
		},
		{
			"4b66e9d4d1b4673c5ad22691957d6af5c11b6421e0ea01d42ca4169e7918ba0d",
			"e5210f12786811d3f4b7959d0538ae2c31dbe7106fc03c3efc4cd549c715a493",
			"95cbde9476e8907d7aade45cb4b873f88b595a68799fa152e6f8f7647aac7957",
		},
	} {
		wantShared(t, unhex(t, c.secret), unhex(t, c.public), unhex(t, c.want))
	}
}

// keyInUse: the secret, as the library has it.
func keyInUse(t *testing.T, secret [32]byte) *ecdh.PrivateKey {
	t.Helper()
	key, err := ecdh.X25519().NewPrivateKey(secret[:])
	if err != nil {
		t.Fatal(err)
	}
	return key
}

// sharedInUse: what the library has of both; it refuses to answer 0.
func sharedInUse(t *testing.T, secret, public [32]byte) ([32]byte, api.Errno) {
	t.Helper()
	theirs, err := ecdh.X25519().NewPublicKey(public[:])
	if err != nil {
		t.Fatal(err)
	}
	shared, err := keyInUse(t, secret).ECDH(theirs)
	if err != nil {
		return [32]byte{}, api.ErrArg
	}
	return [32]byte(shared), api.OK
}

func checkInUse(t *testing.T, secret, public [32]byte) {
	t.Helper()
	want, e := sharedInUse(t, secret, public)
	if got, f := agree.Shared(secret, public); got != want || f != e {
		t.Errorf("Shared(%x, %x) = %x, %d; want %x, %d", secret, public, got, f, want, e)
	}
}

func TestP181KeysInUse(t *testing.T) {
	publics := drawn(4, 150)
	for _, u := range smalls() {
		publics = append(publics, either(u)...)
	}
	refused := 0
	for i, secret := range append(edges(), drawn(5, len(publics)-len(edges()))...) {
		checkPublic(t, secret, [32]byte(keyInUse(t, secret).PublicKey().Bytes()))
		checkInUse(t, secret, publics[i])
		if _, e := sharedInUse(t, secret, publics[i]); e == api.ErrArg {
			refused++
		}
	}
	if refused != 2*len(smalls()) {
		t.Errorf("the library refused %d", refused)
	}
}

func TestP181PublicAsTold(t *testing.T) {
	for _, secret := range append(edges(), drawn(6, 100)...) {
		checkPublic(t, secret, bytesOf(ladderOf(clampOf(secret), big.NewInt(9))))
	}
}

// By the point it is the same: of Base, Clamp of secret times.
func TestP181PublicIsOfAPoint(t *testing.T) {
	for _, secret := range append(edges(), drawn(7, 30)...) {
		p, e := curve.Times(agree.Clamp(secret), curve.Base())
		u, f := ladder.Of(p)
		if e != api.OK || f != api.OK {
			t.Fatal(e, f)
		}
		checkPublic(t, secret, bytesOf(valueOfNum(u)))
	}
}

// Bits of a secret that do not count alter nothing; of each other bit hangs what is answered.
func TestP181EachBitOfASecret(t *testing.T) {
	secret, other := drawn(8, 2)[0], agree.Public(drawn(8, 2)[1])
	public := agree.Public(secret)
	shared, _ := agree.Shared(secret, other)
	publics, keys := map[[32]byte]int{public: 1}, map[[32]byte]int{shared: 1}
	for i := range 256 {
		near := turned(secret, i)
		key, e := agree.Shared(near, other)
		if e != api.OK {
			t.Errorf("bit %d turned: error %d", i, e)
		}
		publics[agree.Public(near)]++
		keys[key]++
	}
	if len(publics) != 252 || publics[public] != 6 {
		t.Errorf("%d publics, one %d times; want 252, 6", len(publics), publics[public])
	}
	if len(keys) != 252 || keys[shared] != 6 {
		t.Errorf("%d keys, one %d times; want 252, 6", len(keys), keys[shared])
	}
}

func TestP181TwoThatAgree(t *testing.T) {
	secrets := append(drawn(9, 6), [32]byte{}, bytesOf(full), [32]byte{8}, [32]byte{31: 63})
	keys := map[[32]byte]int{}
	for i, mine := range secrets {
		for _, theirs := range secrets[:i+1] {
			key, e := agree.Shared(mine, agree.Public(theirs))
			if e != api.OK || key == [32]byte{} {
				t.Errorf("%x and %x: %x, %d", mine, theirs, key, e)
			}
			wantShared(t, theirs, agree.Public(mine), key)
			keys[key]++
		}
	}
	if want := len(secrets) * (len(secrets) + 1) / 2; len(keys) != want {
		t.Errorf("%d keys of %d twos", len(keys), want)
	}
}

// What is answered may be handed in for a public one: so three agree, whoever comes first.
func TestP181ThreeThatAgree(t *testing.T) {
	s := drawn(10, 3)
	var first [32]byte
	for i, order := range [][3]int{{0, 1, 2}, {0, 2, 1}, {1, 0, 2}, {1, 2, 0}, {2, 0, 1}, {2, 1, 0}} {
		key, e := agree.Shared(s[order[1]], agree.Public(s[order[0]]))
		if e != api.OK {
			t.Fatal(e)
		}
		key, e = agree.Shared(s[order[2]], key)
		if e != api.OK {
			t.Fatal(e)
		}
		if i == 0 {
			first = key
		}
		if key != first {
			t.Errorf("in the order %v: %x; want %x", order, key, first)
		}
	}
}

// To have 9 for the public one is as to ask for one's own.
func TestP181OfNine(t *testing.T) {
	for _, secret := range append(edges(), drawn(11, 10)...) {
		for _, nine := range append(either(big.NewInt(9)), either(plus(modulus, big.NewInt(9)))...) {
			wantShared(t, secret, nine, agree.Public(secret))
		}
	}
}

func TestP181AsTold(t *testing.T) {
	publics := drawn(12, 4)
	for _, u := range []*big.Int{
		big.NewInt(2), big.NewInt(3), big.NewInt(9), power2(64), power2(128), power2(192), power2(254),
		less(power2(254), one), less(modulus, big.NewInt(2)), less(power2(255), one),
	} {
		publics = append(publics, either(u)...)
	}
	for _, secret := range edges() {
		for _, public := range publics {
			checkShared(t, secret, public)
		}
	}
}

func TestP181Drawn(t *testing.T) {
	all := drawn(13, 500)
	for i := 1; i < len(all); i += 2 {
		checkShared(t, all[i-1], all[i])
	}
}

func TestP181EachBitOfAPublicOne(t *testing.T) {
	secret := drawn(14, 1)[0]
	for _, public := range append(drawn(15, 1), agree.Public(drawn(16, 1)[0])) {
		shared, e := agree.Shared(secret, public)
		if e != api.OK {
			t.Fatal(e)
		}
		keys := map[[32]byte]int{shared: 1}
		for i := range 256 {
			near := turned(public, i)
			checkShared(t, secret, near)
			key, _ := agree.Shared(secret, near)
			keys[key]++
		}
		wantShared(t, secret, turned(public, 255), shared)
		if len(keys) != 256 || keys[shared] != 2 {
			t.Errorf("%d keys, one %d times; want 256, 2", len(keys), keys[shared])
		}
	}
}

// The numbers from P up to 2^255 - 1 count modulo P.
func TestP181PublicModuloP(t *testing.T) {
	secret := drawn(17, 1)[0]
	for n := range int64(19) {
		plain, e := agree.Shared(secret, bytesOf(big.NewInt(n)))
		if small := n < 2; (e == api.ErrArg) != small {
			t.Errorf("the public one is %d: error %d", n, e)
		}
		for _, public := range append(either(plus(modulus, big.NewInt(n))), either(big.NewInt(n))...) {
			if key, f := agree.Shared(secret, public); key != plain || f != e {
				t.Errorf("Shared(%x, %x) = %x, %d; want %x, %d", secret, public, key, f, plain, e)
			}
			checkShared(t, secret, public)
		}
	}
}

// With those whose public one is of a point that is Zero when taken 8 times nobody agrees.
func TestP181Nobody(t *testing.T) {
	secrets := append(edges(), drawn(18, 10)...)
	for _, u := range smalls() {
		for _, public := range either(u) {
			for _, secret := range secrets {
				wantErrArg(t, secret, public)
			}
		}
	}
}

// Beside those there is a key with everyone, whoever is near.
func TestP181NobodyElse(t *testing.T) {
	secret := drawn(19, 1)[0]
	small := map[string]int{}
	for _, u := range smalls() {
		small[u.String()] = 1
	}
	for _, u := range smalls() {
		for by := int64(-20); by <= 20; by++ {
			near := plus(u, big.NewInt(by))
			if near.Sign() < 0 || near.BitLen() > 255 {
				continue
			}
			for _, public := range either(near) {
				checkShared(t, secret, public)
				if _, e := agree.Shared(secret, public); (e == api.ErrArg) != (small[near.String()] == 1) {
					t.Errorf("the public one is %x: error %d", public, e)
				}
			}
		}
	}
}

func TestP181NobodyEachBitTurned(t *testing.T) {
	secret := drawn(20, 1)[0]
	for _, u := range smalls() {
		for i := range 255 {
			checkInUse(t, secret, turned(bytesOf(u), i))
		}
	}
}

// publicFor: the public one with which the key of secret is v, if there is one.
func publicFor(secret [32]byte, v *big.Int) ([32]byte, bool) {
	for _, whole := range []*big.Int{often, beside} {
		back := new(big.Int).ModInverse(clampOf(secret), whole)
		public := bytesOf(ladderOf(back, v))
		// There and back leads to v only where v, whole times, comes to nothing.
		if key, _ := sharedOf(secret, public); key == bytesOf(v) {
			return public, true
		}
	}
	return [32]byte{}, false
}

// A key with but one byte that is not 0, wherever it stands, is a key; and so is one with two words that are the same, and one near P.
func TestP181KeysNear0AndP(t *testing.T) {
	secret := drawn(27, 1)[0]
	var bare []*big.Int
	for place := uint(0); place < 256; place += 8 {
		bare = append(bare, power2(place))
	}
	for second := uint(64); second < 256; second += 64 {
		for first := uint(0); first < second; first += 64 {
			bare = append(bare, plus(power2(first), power2(second)))
		}
	}
	for _, v := range bare {
		wantSome(t, secret, new(big.Int), v)
	}
	wantSome(t, secret, modulus, big.NewInt(-1))
}

// wantSome keys: two of those that are from, and step some times.
func wantSome(t *testing.T, secret [32]byte, from, step *big.Int) {
	t.Helper()
	found := 0
	for n := int64(1); n < 128 && found < 2; n++ {
		v := plus(from, new(big.Int).Mul(big.NewInt(n), step))
		if public, ok := publicFor(secret, v); ok {
			wantShared(t, secret, public, bytesOf(v))
			found++
		}
	}
	if found < 2 {
		t.Errorf("%d keys from %x by %x", found, from, step)
	}
}

// A public one need not be of a point: half of all numbers are not.
func TestP181BesideTheCurve(t *testing.T) {
	kinds := map[bool]int{}
	for _, public := range drawn(21, 60) {
		u := valueOf(public)
		u.SetBit(u, 255, 0)
		right := plus(plus(product(product(u, u), u), product(big.NewInt(486662), product(u, u))), u)
		kinds[big.Jacobi(right.Mod(right, modulus), modulus) == 1]++
		checkShared(t, drawn(22, 1)[0], public)
	}
	if kinds[true] < 15 || kinds[false] < 15 {
		t.Errorf("the public ones are of the kinds %v", kinds)
	}
}

// What is told is below P: no two texts of bytes stand for one number.
func TestP181BelowP(t *testing.T) {
	for i, secret := range drawn(23, 200) {
		if v := valueOf(agree.Public(secret)); v.Cmp(modulus) >= 0 {
			t.Errorf("Public(%x) is %x", secret, v)
		}
		public := drawn(24, 200)[i]
		if key, _ := agree.Shared(secret, public); valueOf(key).Cmp(modulus) >= 0 {
			t.Errorf("Shared(%x, %x) is %x", secret, public, key)
		}
	}
}

type answers struct {
	clamped     api.Num
	public, key [32]byte
	e           api.Errno
}

func askAll(secret, public [32]byte) answers {
	a := answers{clamped: agree.Clamp(secret), public: agree.Public(secret)}
	a.key, a.e = agree.Shared(secret, public)
	return a
}

func TestP2AskedAgain(t *testing.T) {
	publics := drawn(25, 20)
	for _, u := range smalls() {
		publics = append(publics, either(u)...)
	}
	secrets := drawn(26, len(publics))
	var first []answers
	for i := range publics {
		first = append(first, askAll(secrets[i], publics[i]))
	}
	for i := len(publics) - 1; i >= 0; i-- {
		if again := askAll(secrets[i], publics[i]); again != first[i] {
			t.Errorf("asked again with %x, %x: %v; want %v", secrets[i], publics[i], again, first[i])
		}
	}
}
