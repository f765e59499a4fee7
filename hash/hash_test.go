package hash_test

import (
	"bytes"
	"crypto/sha256"
	"encoding"
	"encoding/binary"
	"encoding/hex"
	"math"
	"math/big"
	"math/rand/v2"
	"strings"
	"testing"

	"sealring/api"
	"sealring/hash"
)

// start: P50's first H, as bytes.
const start = "6a09e667 bb67ae85 3c6ef372 a54ff53a 510e527f 9b05688c 1f83d9ab 5be0cd19"

// digest written out in base 16.
func digest(t *testing.T, s string) [32]byte {
	t.Helper()
	b, err := hex.DecodeString(strings.ReplaceAll(s, " ", ""))
	if err != nil || len(b) != 32 {
		t.Fatal(s, err)
	}
	return [32]byte(b)
}

// body of n bytes that tells one place from the next.
func body(n int) []byte {
	b := make([]byte, n)
	for i := range b {
		b[i] = byte(i*7 + i>>8*3 + 1)
	}
	return b
}

// drawn bytes, of a seed that is fixed.
func drawn(r *rand.Rand, n int) []byte {
	b := make([]byte, n)
	for i := range b {
		b[i] = byte(r.Uint32())
	}
	return b
}

// wantSum: the digest of p behind n bytes that made the words d, worked out without package hash.
func wantSum(t *testing.T, d [32]byte, n uint64, p []byte) [32]byte {
	t.Helper()
	kept := append([]byte("sha\x03"), d[:]...)
	kept = append(kept, make([]byte, 64)...)
	kept = binary.BigEndian.AppendUint64(kept, n)
	s := sha256.New()
	if err := s.(encoding.BinaryUnmarshaler).UnmarshalBinary(kept); err != nil {
		t.Fatal(err)
	}
	s.Write(p)
	return [32]byte(s.Sum(nil))
}

// wantPad is P51's Pad, with n as a number without a bound.
func wantPad(n uint64) []byte {
	p := []byte{128}
	size := func() *big.Int {
		all := new(big.Int).SetUint64(n)
		return all.Add(all, big.NewInt(int64(len(p)+8)))
	}
	for new(big.Int).Mod(size(), big.NewInt(64)).Sign() != 0 {
		p = append(p, 0)
	}
	inBits := new(big.Int).Lsh(new(big.Int).SetUint64(n), 3)
	inBits.Mod(inBits, new(big.Int).Lsh(big.NewInt(1), 64))
	return append(p, inBits.FillBytes(make([]byte, 8))...)
}

// root: the first 32 bits behind the point of the k-th root of n.
func root(n, k int64) uint32 {
	// The greatest x with x^k not above n * 2^(32k), bit by bit.
	bound := new(big.Int).Lsh(big.NewInt(n), uint(32*k))
	x := new(big.Int)
	for i := 40; i >= 0; i-- {
		more := new(big.Int).SetBit(x, i, 1)
		if new(big.Int).Exp(more, big.NewInt(k), nil).Cmp(bound) <= 0 {
			x = more
		}
	}
	return uint32(x.Uint64())
}

// primes: the first n.
func primes(n int) []int64 {
	var l []int64
	for x := int64(2); len(l) < n; x++ {
		if big.NewInt(x).ProbablyPrime(0) {
			l = append(l, x)
		}
	}
	return l
}

// wantMix is P50 of one block, written as the promise tells it, with K made of the primes.
func wantMix(words [8]uint32, block []byte) [8]uint32 {
	turn := func(x uint32, n int) uint32 { return x>>n | x<<(32-n) }
	var w [64]uint32
	for i := range 16 {
		w[i] = binary.BigEndian.Uint32(block[4*i:])
	}
	for i := 16; i < 64; i++ {
		x, y := w[i-15], w[i-2]
		w[i] = w[i-16] + (turn(x, 7) ^ turn(x, 18) ^ x>>3) + w[i-7] + (turn(y, 17) ^ turn(y, 19) ^ y>>10)
	}
	v := words
	for i, prime := range primes(64) {
		a, b, c, e, f, g := v[0], v[1], v[2], v[4], v[5], v[6]
		one := v[7] + (turn(e, 6) ^ turn(e, 11) ^ turn(e, 25)) + ((e & f) ^ (^e & g)) + root(prime, 3) + w[i]
		two := (turn(a, 2) ^ turn(a, 13) ^ turn(a, 22)) + ((a & b) ^ (a & c) ^ (b & c))
		v = [8]uint32{one + two, a, b, c, v[3] + one, e, f, g}
	}
	for i := range v {
		v[i] += words[i]
	}
	return v
}

func TestP50Examples(t *testing.T) {
	for s, want := range map[string]string{
		"":    "e3b0c442 98fc1c14 9afbf4c8 996fb924 27ae41e4 649b934c a495991b 7852b855",
		"abc": "ba7816bf 8f01cfea 414140de 5dae2223 b00361a3 96177a9c b410ff61 f20015ad",
		"abcdbcdecdefdefgefghfghighijhijkijkljklmklmnlmnomnopnopq":                                                         "248d6a61 d20638b8 e5c02693 0c3e6039 a33ce459 64ff2167 f6ecedd4 19db06c1",
		"abcdefghbcdefghicdefghijdefghijkefghijklfghijklmghijklmnhijklmnoijklmnopjklmnopqklmnopqrlmnopqrsmnopqrstnopqrstu": "cf5b16a7 78af8380 036ce59e 7b049237 0b249b11 e8f07a51 afac4503 7afee9d1",
		strings.Repeat("\x00", 64):      "f5a5fd42 d16a2030 2798ef6e d309979b 43003d23 20d9f0e8 ea9831a9 2759fb4b",
		strings.Repeat("a", 1000000):    "cdc76e5c 9914fb92 81a1c7e2 84d73e67 f1809a48 a497200e 046d39cc c7112cd0",
		"\xbd":                          "68325720 aabd7c82 f30f554b 313d0570 c95accbb 7dc4b5aa e11204c0 8ffe732b",
		"\xc9\x8c\x8e\x55":              "7abc22c0 ae5af26c e93dbb94 433a0e0b 2e119d01 4f8e7f65 bd56c61c cccd9504",
		strings.Repeat("\x00", 1000):    "541b3e9d aa09b20b f85fa273 e5cbd3e8 0185aa4e c298e765 db87742b 70138a53",
		strings.Repeat("\x00", 1000000): "d29751f2 649b32ff 572b5e0a 9f541ea6 60a50f94 ff0beedf b0b692b9 24cc8025",
	} {
		if d := hash.Sum([]byte(s)); d != digest(t, want) {
			t.Errorf("Sum(%.20q, of %d bytes) = %x; want %s", s, len(s), d, want)
		}
	}
}

// TestP50ByThePrimes holds one block, from any words, against the rule with roots in place of the table.
func TestP50ByThePrimes(t *testing.T) {
	var first [8]uint32
	for i, prime := range primes(8) {
		first[i] = root(prime, 2)
	}
	r := rand.New(rand.NewPCG(50, 50))
	for i := range 20 {
		words := first
		if i > 0 {
			for j := range words {
				words[j] = r.Uint32()
			}
		}
		var d [32]byte
		for j, x := range words {
			binary.BigEndian.PutUint32(d[4*j:], x)
		}
		block := drawn(r, 64)
		s, e := hash.Resume(d, 0)
		if i == 0 {
			s = hash.New()
		}
		want := wantMix(wantMix(words, block), wantPad(64))
		var all []byte
		for _, x := range want {
			all = binary.BigEndian.AppendUint32(all, x)
		}
		if got := s.Write(block).Sum(); !bytes.Equal(got[:], all) || e != api.OK {
			t.Errorf("from %x the block %x makes %x, %d; want %x", words, block, got, e, all)
		}
	}
}

func TestP50EveryLength(t *testing.T) {
	for n := range 1100 {
		p := body(n)
		if d := hash.Sum(p); d != sha256.Sum256(p) {
			t.Errorf("Sum of %d bytes = %x", n, d)
		}
	}
}

func TestP50EveryBit(t *testing.T) {
	for n := range 128 * 8 {
		p := make([]byte, 128)
		p[n/8] = 1 << (n % 8)
		if d := hash.Sum(p); d != sha256.Sum256(p) {
			t.Errorf("Sum with bit %d alone = %x", n, d)
		}
	}
}

func TestP50Drawn(t *testing.T) {
	r := rand.New(rand.NewPCG(5, 0))
	for range 500 {
		p := drawn(r, r.IntN(1<<r.IntN(15)))
		if d := hash.Sum(p); d != sha256.Sum256(p) {
			t.Errorf("Sum of %d bytes = %x", len(p), d)
		}
	}
}

func TestP51PadExamples(t *testing.T) {
	for n, want := range map[uint64]string{
		0:  "80" + strings.Repeat("00", 63),
		1:  "80" + strings.Repeat("00", 61) + "08",
		3:  "80" + strings.Repeat("00", 59) + "18",
		54: "8000 00000000 000001b0",
		55: "80 00000000 000001b8",
		56: "80" + strings.Repeat("00", 63) + "00000000 000001c0",
		63: "80" + strings.Repeat("00", 56) + "00000000 000001f8",
		64: "80" + strings.Repeat("00", 55) + "00000000 00000200",
		// 8 * n modulo 2^64: what is beyond it is left out.
		1<<61 - 1:          "80" + strings.Repeat("00", 56) + "ffffffff fffffff8",
		1 << 61:            "80" + strings.Repeat("00", 63),
		1<<61 + 55:         "80 00000000 000001b8",
		math.MaxUint64:     "80" + strings.Repeat("00", 56) + "ffffffff fffffff8",
		math.MaxUint64 - 8: "80 ffffffff ffffffb8",
		math.MaxUint64 - 7: "80" + strings.Repeat("00", 63) + "ffffffff ffffffc0",
	} {
		b, err := hex.DecodeString(strings.ReplaceAll(want, " ", ""))
		if err != nil {
			t.Fatal(err)
		}
		if p := hash.Pad(n); !bytes.Equal(p, b) {
			t.Errorf("Pad(%d) = %x; want %x", n, p, b)
		}
	}
}

func TestP51Pad(t *testing.T) {
	var counts []uint64
	for i := range 64 {
		for by := range uint64(260) {
			counts = append(counts, 1<<i-130+by)
		}
	}
	r := rand.New(rand.NewPCG(51, 51))
	for range 2000 {
		counts = append(counts, r.Uint64())
	}
	for _, n := range counts {
		p := hash.Pad(n)
		if !bytes.Equal(p, wantPad(n)) {
			t.Errorf("Pad(%d) = %x; want %x", n, p, wantPad(n))
		}
		if len(p) < 9 || len(p) > 72 {
			t.Errorf("Pad(%d) has %d bytes", n, len(p))
		}
	}
}

func TestP51New(t *testing.T) {
	want := sha256.Sum256(nil)
	for name, d := range map[string][32]byte{
		"New":               hash.New().Sum(),
		"New, nil":          hash.New().Write(nil).Sum(),
		"New, nothing":      hash.New().Write([]byte{}).Sum(),
		"New, nothing more": hash.New().Write(nil).Write([]byte{}).Write(nil).Sum(),
		"Sum of nil":        hash.Sum(nil),
		"Sum of nothing":    hash.Sum([]byte{}),
	} {
		if d != want {
			t.Errorf("%s: %x; want %x", name, d, want)
		}
	}
}

func TestP51TwoParts(t *testing.T) {
	for n := range 200 {
		p := body(n)
		want := sha256.Sum256(p)
		whole := hash.New().Write(p)
		for cut := range n + 1 {
			s := hash.New().Write(p[:cut]).Write(nil).Write(p[cut:])
			if d := s.Sum(); d != want {
				t.Errorf("%d and %d bytes: %x; want %x", cut, n-cut, d, want)
			}
			if s != whole {
				t.Errorf("%d and %d bytes are another state than all at once", cut, n-cut)
			}
		}
	}
}

func TestP51ManyParts(t *testing.T) {
	r := rand.New(rand.NewPCG(51, 5))
	for range 300 {
		s := hash.New()
		var all []byte
		for range r.IntN(20) {
			p := drawn(r, r.IntN(1<<r.IntN(10)))
			all = append(all, p...)
			s = s.Write(p)
			// A Sum in between changes nothing.
			if s.Sum() != sha256.Sum256(all) {
				t.Errorf("with %d bytes: %x", len(all), s.Sum())
			}
		}
		if s != hash.New().Write(all) {
			t.Errorf("the state of %d bytes in parts is another than at once", len(all))
		}
	}
}

func TestP51ByteByByte(t *testing.T) {
	p := body(400)
	s := hash.New()
	for i := range p {
		if s.Sum() != sha256.Sum256(p[:i]) {
			t.Errorf("%d bytes: %x", i, s.Sum())
		}
		s = s.Write(p[i : i+1])
	}
}

// TestP51StaysWhatItIs: from one state two ways go on, and neither shows in it or in the other.
func TestP51StaysWhatItIs(t *testing.T) {
	for n := range 140 {
		p := body(n)
		s := hash.New().Write(p)
		before := s
		for more := range 140 {
			one, two := body(more), bytes.Repeat([]byte{0xa5}, more)
			u, v := s.Write(one), s.Write(two)
			if u.Sum() != sha256.Sum256(append(p[:n:n], one...)) || v.Sum() != sha256.Sum256(append(p[:n:n], two...)) {
				t.Errorf("%d bytes and %d more: %x, %x", n, more, u.Sum(), v.Sum())
			}
		}
		if s != before || s.Sum() != sha256.Sum256(p) {
			t.Errorf("the state of %d bytes became another", n)
		}
	}
}

// TestP51CountWrapsRound: the count is modulo 2^64, and so is what Pad tells of it.
func TestP51CountWrapsRound(t *testing.T) {
	d := sha256.Sum256([]byte("far"))
	for _, n := range []uint64{1<<61 - 64, 1 << 61, 1<<63 - 64, 1 << 63, math.MaxUint64 - 63, math.MaxUint64 - 127} {
		for more := range 200 {
			p := body(more)
			s, e := hash.Resume(d, n)
			if got, want := s.Write(p).Sum(), wantSum(t, d, n, p); got != want || e != api.OK {
				t.Errorf("%d bytes and %d more: %x, %d; want %x", n, more, got, e, want)
			}
		}
	}
}

func TestP52GoesOn(t *testing.T) {
	for n := range 200 {
		p := body(n)
		all := append(p, wantPad(uint64(n))...)
		s, e := hash.Resume(hash.Sum(body(n)), uint64(len(all)))
		if e != api.OK || s != hash.New().Write(all) {
			t.Errorf("behind %d bytes: %d, or not the state of New with these and their Pad", n, e)
		}
		for _, more := range []int{0, 1, 55, 56, 63, 64, 65, 300} {
			q := body(more)
			if got, want := s.Write(q).Sum(), sha256.Sum256(append(all[:len(all):len(all)], q...)); got != want {
				t.Errorf("behind %d bytes %d more: %x; want %x", n, more, got, want)
			}
		}
	}
}

func TestP52AnyDigest(t *testing.T) {
	r := rand.New(rand.NewPCG(52, 52))
	for i := range 2000 {
		d := [32]byte(drawn(r, 32))
		n := r.Uint64() >> (i % 65) / 64 * 64
		p := drawn(r, r.IntN(200))
		s, e := hash.Resume(d, n)
		if got, want := s.Write(p).Sum(), wantSum(t, d, n, p); got != want || e != api.OK {
			t.Errorf("Resume(%x, %d) with %d bytes = %x, %d; want %x", d, n, len(p), got, e, want)
		}
	}
}

func TestP52OfNone(t *testing.T) {
	if s, e := hash.Resume(digest(t, start), 0); s != hash.New() || e != api.OK {
		t.Errorf("Resume of the first words and 0 bytes is not New: %x, %d", s.Sum(), e)
	}
	if s, e := hash.Resume([32]byte{}, 0); s.Sum() != wantSum(t, [32]byte{}, 0, nil) || e != api.OK {
		t.Errorf("Resume of words 0 and 0 bytes: %x, %d", s.Sum(), e)
	}
}

func TestP52Wrong(t *testing.T) {
	for _, from := range []uint64{0, 64, 128, 1 << 32, 1 << 61, 1 << 63, math.MaxUint64 - 63} {
		for by := range uint64(64) {
			for _, d := range [][32]byte{{}, {31: 1}, sha256.Sum256(nil)} {
				s, e := hash.Resume(d, from+by)
				if by == 0 {
					if e != api.OK || s == hash.New() {
						t.Errorf("Resume(%x, %d): error %d, or New's state", d, from, e)
					}
					continue
				}
				if e != api.ErrArg || s != hash.New() {
					t.Errorf("Resume(%x, %d): error %d, or not New's state", d, from+by, e)
				}
				if got := s.Write([]byte("abc")).Sum(); got != sha256.Sum256([]byte("abc")) {
					t.Errorf("Resume(%x, %d) goes on to %x", d, from+by, got)
				}
			}
		}
	}
}

// roomy: a copy of b with room behind it that a call might write to.
func roomy(b []byte) []byte {
	room := bytes.Repeat([]byte{0xa5}, len(b)+200)
	copy(room, b)
	return room[:len(b)]
}

// fill b, and the room behind it, so that what shares memory with it shows.
func fill(b []byte) {
	all := b[:cap(b)]
	for i := range all {
		all[i] = 0xee
	}
}

func TestP2NothingIsChangedOrKept(t *testing.T) {
	for n := range 200 {
		want := sha256.Sum256(body(n))
		b := roomy(body(n))
		s := hash.New().Write(b)
		if hash.Sum(b) != want || s.Sum() != want {
			t.Errorf("%d bytes: %x, %x; want %x", n, hash.Sum(b), s.Sum(), want)
		}
		if all := b[:cap(b)]; !bytes.Equal(all[:n], body(n)) || !bytes.Equal(all[n:], bytes.Repeat([]byte{0xa5}, 200)) {
			t.Errorf("%d bytes became %x", n, all)
		}
		fill(b)
		if s.Sum() != want {
			t.Errorf("a later change of %d bytes shows: %x; want %x", n, s.Sum(), want)
		}
	}
}

func TestP2NothingIsShared(t *testing.T) {
	for n := range uint64(128) {
		p, q := hash.Pad(n), hash.Pad(n)
		fill(p)
		if !bytes.Equal(q, wantPad(n)) || !bytes.Equal(hash.Pad(n), wantPad(n)) {
			t.Errorf("a change of Pad(%d) shows in another", n)
		}
	}
	if hash.Sum([]byte("abc")) != sha256.Sum256([]byte("abc")) {
		t.Error("a change of a Pad shows in a digest")
	}
}
