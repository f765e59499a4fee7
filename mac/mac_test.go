package mac_test

import (
	"bytes"
	"crypto/hmac"
	"crypto/sha256"
	"encoding/hex"
	"math/rand/v2"
	"strings"
	"testing"

	"sealring/mac"
)

// body of n bytes that tells one place from the next.
func body(n int) []byte {
	b := make([]byte, n)
	for i := range b {
		b[i] = byte(i*7 + i>>8*3 + 1)
	}
	return b
}

// drawn bytes, of a seed that is fixed.
func drawn(r *rand.Rand, n int) []byte {
	b := make([]byte, n)
	for i := range b {
		b[i] = byte(r.Uint32())
	}
	return b
}

// want: the mark, worked out without the project's packages.
func want(key, p []byte) [32]byte {
	m := hmac.New(sha256.New, key)
	m.Write(p)
	return [32]byte(m.Sum(nil))
}

// wantByWords is P60 written as the promise tells it, so that what want leans on is not all there is.
func wantByWords(key, p []byte) [32]byte {
	if len(key) > 64 {
		d := sha256.Sum256(key)
		key = d[:]
	}
	whole := append(bytes.Clone(key), make([]byte, 64-len(key))...)
	var outer, inner []byte
	for _, x := range whole {
		outer = append(outer, x^92)
		inner = append(inner, x^54)
	}
	d := sha256.Sum256(append(inner, p...))
	return sha256.Sum256(append(outer, d[:]...))
}

// unhex: bytes of base 16, with blanks left out.
func unhex(t *testing.T, s string) []byte {
	t.Helper()
	b, err := hex.DecodeString(strings.ReplaceAll(s, " ", ""))
	if err != nil {
		t.Fatal(s, err)
	}
	return b
}

func TestP60Examples(t *testing.T) {
	count := unhex(t, "0102030405060708090a0b0c0d0e0f10111213141516171819")
	long := "This is a test using a larger than block-size key and a larger than block-size data. The key needs to be hashed before being used by the HMAC algorithm."
	for _, c := range []struct {
		key, p []byte
		want   string
	}{
		{nil, nil, "b613679a 0814d9ec 772f95d7 78c35fc5 ff1697c4 93715653 c6c71214 4292c5ad"},
		{[]byte("Jefe"), []byte("what do ya want for nothing?"), "5bdcc146 bf60754e 6a042426 089575c7 5a003f08 9d273983 9dec58b9 64ec3843"},
		{bytes.Repeat([]byte{0x0b}, 20), []byte("Hi There"), "b0344c61 d8db3853 5ca8afce af0bf12b 881dc200 c9833da7 26e9376c 2e32cff7"},
		{bytes.Repeat([]byte{0xaa}, 20), bytes.Repeat([]byte{0xdd}, 50), "773ea91e 36800e46 854db8eb d09181a7 2959098b 3ef8c122 d9635514 ced565fe"},
		{count, bytes.Repeat([]byte{0xcd}, 50), "82558a38 9a443c0e a4cc8198 99f2083a 85f0faa3 e578f807 7a2e3ff4 6729665b"},
		{bytes.Repeat([]byte{0xaa}, 131), []byte("Test Using Larger Than Block-Size Key - Hash Key First"), "60e43159 1ee0b67f 0d8a26aa cbf5b77f 8e0bc621 3728c514 0546040f 0ee37f54"},
		{bytes.Repeat([]byte{0xaa}, 131), []byte(long), "9b09ffa7 1b942fcb 27635fbc d5b0e944 bfdc6364 4f071393 8a7f5153 5c3a35e2"},
		{[]byte("key"), []byte("The quick brown fox jumps over the lazy dog"), "f7bc83f4 30538424 b13298e6 aa6fb143 ef4d59a1 49461759 97479dbc 2d1a3cd8"},
	} {
		d := unhex(t, c.want)
		if got := mac.Sum(c.key, c.p); !bytes.Equal(got[:], d) {
			t.Errorf("Sum(%x, %.20q) = %x; want %x", c.key, c.p, got, d)
		}
		if got := mac.New(c.key).Write(c.p).Sum(); !bytes.Equal(got[:], d) {
			t.Errorf("New(%x) with %.20q: %x; want %x", c.key, c.p, got, d)
		}
	}
}

// TestP60EveryKeyLength goes past 64, where the key becomes its digest, and past 128, two blocks.
func TestP60EveryKeyLength(t *testing.T) {
	for n := range 300 {
		for _, key := range [][]byte{body(n), make([]byte, n), bytes.Repeat([]byte{255}, n)} {
			for _, size := range []int{0, 1, 31, 32, 55, 56, 63, 64, 65, 119, 120, 128, 500} {
				p := body(size)
				got := mac.Sum(key, p)
				if got != want(key, p) || got != wantByWords(key, p) {
					t.Errorf("by a key of %d bytes the mark of %d is %x; want %x", n, size, got, want(key, p))
				}
			}
		}
	}
}

func TestP60EveryLength(t *testing.T) {
	for n := range 600 {
		p := body(n)
		for _, size := range []int{0, 1, 32, 63, 64, 65, 131} {
			if got := mac.Sum(body(size), p); got != want(body(size), p) {
				t.Errorf("by a key of %d bytes the mark of %d is %x; want %x", size, n, got, want(body(size), p))
			}
		}
	}
}

// TestP60EveryBitOfAKey: each place of the key counts, and each byte of it.
func TestP60EveryBitOfAKey(t *testing.T) {
	p := []byte("text")
	seen := map[[32]byte]int{}
	for n := range 65 * 8 {
		key := make([]byte, 65)
		key[n/8] = 1 << (n % 8)
		if n < 64*8 {
			key = key[:64]
		}
		got := mac.Sum(key, p)
		if got != want(key, p) {
			t.Errorf("by a key with bit %d alone: %x; want %x", n, got, want(key, p))
		}
		if other, ok := seen[got]; ok {
			t.Errorf("bits %d and %d of a key make one mark", other, n)
		}
		seen[got] = n
	}
	for x := range 256 {
		key := bytes.Repeat([]byte{byte(x)}, 64)
		if got := mac.Sum(key, p); got != want(key, p) {
			t.Errorf("by a key of bytes %d: %x; want %x", x, got, want(key, p))
		}
	}
}

// TestP60BytesZeroBehindAKey: up to 64 bytes they change nothing, from there on they do.
func TestP60BytesZeroBehindAKey(t *testing.T) {
	p := []byte("text")
	for n := range 65 {
		key := body(n)
		for size := n; size <= 64; size++ {
			longer := append(body(n), make([]byte, size-n)...)
			if mac.New(longer) != mac.New(key) || mac.Sum(longer, p) != mac.Sum(key, p) {
				t.Errorf("a key of %d bytes and %d bytes 0 behind it is another key", n, size-n)
			}
		}
		if mac.Sum(append(body(n), make([]byte, 65-n)...), p) == mac.Sum(key, p) {
			t.Errorf("a key of %d bytes and bytes 0 up to 65 is no other key", n)
		}
		if n > 0 && n < 64 && mac.Sum(append([]byte{0}, key...), p) == mac.Sum(key, p) {
			t.Errorf("a byte 0 ahead of a key of %d bytes changes nothing", n)
		}
	}
}

func TestP60ALongKeyIsItsDigest(t *testing.T) {
	for n := range 200 {
		d := sha256.Sum256(body(n))
		same := mac.New(body(n)) == mac.New(d[:]) && mac.Sum(body(n), body(9)) == mac.Sum(d[:], body(9))
		if same != (n > 64) {
			t.Errorf("is a key of %d bytes its digest? %t", n, same)
		}
	}
}

func TestP60NewHasNoBytes(t *testing.T) {
	for n := range 130 {
		key := body(n)
		s := mac.New(key)
		if s.Sum() != want(key, nil) || s.Write(nil) != s || s.Write([]byte{}).Write(nil).Sum() != want(key, nil) {
			t.Errorf("New of %d bytes: %x; want %x", n, s.Sum(), want(key, nil))
		}
	}
}

func TestP60TwoParts(t *testing.T) {
	for _, size := range []int{0, 5, 64, 65} {
		key := body(size)
		for n := range 150 {
			p := body(n)
			mark := want(key, p)
			whole := mac.New(key).Write(p)
			for cut := range n + 1 {
				s := mac.New(key).Write(p[:cut]).Write(nil).Write(p[cut:])
				if s.Sum() != mark || s != whole {
					t.Errorf("by a key of %d bytes %d and %d bytes: %x; want %x", size, cut, n-cut, s.Sum(), mark)
				}
			}
		}
	}
}

func TestP60ManyParts(t *testing.T) {
	r := rand.New(rand.NewPCG(60, 60))
	for range 300 {
		key := drawn(r, r.IntN(140))
		s := mac.New(key)
		var all []byte
		for range r.IntN(20) {
			p := drawn(r, r.IntN(1<<r.IntN(10)))
			all = append(all, p...)
			s = s.Write(p)
			// A Sum in between changes nothing.
			if s.Sum() != want(key, all) {
				t.Errorf("by a key of %d bytes with %d bytes: %x", len(key), len(all), s.Sum())
			}
		}
		if s != mac.New(key).Write(all) {
			t.Errorf("the state of %d bytes in parts is another than at once", len(all))
		}
	}
}

// TestP60StaysWhatItIs: from one state two ways go on, and neither shows in it or in the other.
func TestP60StaysWhatItIs(t *testing.T) {
	key := body(20)
	for n := range 140 {
		p := body(n)
		s := mac.New(key).Write(p)
		before := s
		for _, more := range []int{0, 1, 31, 32, 63, 64, 65, 128, 200} {
			one, two := body(more), bytes.Repeat([]byte{0xa5}, more)
			u, v := s.Write(one), s.Write(two)
			if u.Sum() != want(key, append(p[:n:n], one...)) || v.Sum() != want(key, append(p[:n:n], two...)) {
				t.Errorf("%d bytes and %d more: %x, %x", n, more, u.Sum(), v.Sum())
			}
			if s != before || s.Sum() != want(key, p) {
				t.Errorf("the state of %d bytes became another by %d more", n, more)
			}
		}
	}
}

func TestP61Sum(t *testing.T) {
	r := rand.New(rand.NewPCG(61, 61))
	for range 2000 {
		key, p := drawn(r, r.IntN(1<<r.IntN(9))), drawn(r, r.IntN(1<<r.IntN(12)))
		got := mac.Sum(key, p)
		if got != mac.New(key).Write(p).Sum() || got != want(key, p) {
			t.Errorf("Sum(%x, of %d bytes) = %x; want %x", key, len(p), got, want(key, p))
		}
	}
	if mac.Sum(nil, nil) != want(nil, nil) || mac.Sum([]byte{}, []byte{}) != want(nil, nil) {
		t.Errorf("Sum of nothing = %x, %x", mac.Sum(nil, nil), mac.Sum([]byte{}, []byte{}))
	}
	// The key and the text do not run into each other.
	if mac.Sum([]byte("ab"), []byte("c")) == mac.Sum([]byte("a"), []byte("bc")) {
		t.Error("ab, c and a, bc have one mark")
	}
}

func TestP61SameExamples(t *testing.T) {
	for _, c := range []struct {
		a, b string
		want bool
	}{
		{"", "", true},
		{"", "\x00", false},
		{"\x00", "\x00", true},
		{"\x00", "\x00\x00", false},
		{"\x00", "\x01", false},
		{"\x00", "\x80", false},
		{"\x01", "\x02", false},
		{"\xff", "\x00", false},
		{"ab", "ab", true},
		{"ab", "ba", false},
		{"ab", "abc", false},
		{"bc", "abc", false},
		{"abc", "abd", false},
		{"abc", "bbc", false},
		{"abc", "adc", false},
		// What is apart twice in the same way is not the same.
		{"aa", "bb", false},
		{"\x01\xff", "\x02\x00", false},
	} {
		a, b := []byte(c.a), []byte(c.b)
		if mac.Same(a, b) != c.want || mac.Same(b, a) != c.want {
			t.Errorf("Same(%q, %q) = %t, and turned %t; want %t", a, b, mac.Same(a, b), mac.Same(b, a), c.want)
		}
	}
	if !mac.Same(nil, nil) || !mac.Same(nil, []byte{}) || !mac.Same([]byte{}, nil) || mac.Same(nil, []byte{0}) || mac.Same([]byte{0}, nil) {
		t.Error("Same of no list")
	}
}

func TestP61SameEveryBit(t *testing.T) {
	for n := range 70 {
		a := body(n)
		if !mac.Same(a, body(n)) || !mac.Same(a, a) {
			t.Errorf("%d bytes are not the same as themselves", n)
		}
		for bit := range 8 * n {
			b := body(n)
			b[bit/8] ^= 1 << (bit % 8)
			if mac.Same(a, b) || mac.Same(b, a) {
				t.Errorf("%d bytes are the same with bit %d turned", n, bit)
			}
		}
	}
}

func TestP61SameLengths(t *testing.T) {
	for n := range 70 {
		for m := range 70 {
			zeros := mac.Same(make([]byte, n), make([]byte, m))
			if zeros != (n == m) || mac.Same(body(n), body(m)) != (n == m) {
				t.Errorf("Same of %d and %d bytes", n, m)
			}
		}
	}
	// A length whose low byte is that of another.
	if mac.Same(make([]byte, 256), nil) || mac.Same(make([]byte, 300), make([]byte, 44)) || mac.Same(make([]byte, 65536), nil) {
		t.Error("Same of lengths that are 256 apart, or a multiple of it")
	}
}

func TestP61SameDrawn(t *testing.T) {
	r := rand.New(rand.NewPCG(61, 6))
	for range 20000 {
		a, b := drawn(r, r.IntN(4)), drawn(r, r.IntN(4))
		for _, l := range [][]byte{a, b} {
			for i := range l {
				l[i] &= 0x81
			}
		}
		if mac.Same(a, b) != bytes.Equal(a, b) {
			t.Errorf("Same(%x, %x) = %t", a, b, mac.Same(a, b))
		}
	}
}

// roomy: a copy of b with room behind it that a call might write to.
func roomy(b []byte) []byte {
	room := bytes.Repeat([]byte{0xa5}, len(b)+200)
	copy(room, b)
	return room[:len(b)]
}

// asItWas: does b, of roomy, still hold want and the room behind it?
func asItWas(b, want []byte) bool {
	all := b[:cap(b)]
	return bytes.Equal(all[:len(b)], want) && bytes.Equal(all[len(b):], bytes.Repeat([]byte{0xa5}, 200))
}

// fill b, and the room behind it, so that what shares memory with it shows.
func fill(b []byte) {
	all := b[:cap(b)]
	for i := range all {
		all[i] = 0xee
	}
}

func TestP2NothingIsChangedOrKept(t *testing.T) {
	for n := range 150 {
		mark := want(body(n), body(n+3))
		key, p := roomy(body(n)), roomy(body(n+3))
		s := mac.New(key).Write(p)
		if mac.Sum(key, p) != mark || s.Sum() != mark {
			t.Errorf("by %d bytes: %x, %x; want %x", n, mac.Sum(key, p), s.Sum(), mark)
		}
		mac.Same(key, p)
		if !asItWas(key, body(n)) || !asItWas(p, body(n+3)) {
			t.Errorf("a key of %d bytes became %x, a text %x", n, key[:cap(key)], p[:cap(p)])
		}
		fill(key)
		fill(p)
		if s.Sum() != mark {
			t.Errorf("a later change of a key of %d bytes or of a text shows: %x; want %x", n, s.Sum(), mark)
		}
		if mac.Sum(body(n), body(n+3)) != mark {
			t.Errorf("by a key of %d bytes it is another mark behind a change", n)
		}
	}
}

// TestP2KeyAndTextInOneMemory: that they share memory does not show.
func TestP2KeyAndTextInOneMemory(t *testing.T) {
	for n := range 150 {
		b := body(n)
		if got := mac.Sum(b, b); got != want(body(n), body(n)) {
			t.Errorf("Sum of %d bytes by themselves = %x", n, got)
		}
		if got := mac.Sum(b[:n/2], b[n/3:]); got != want(body(n)[:n/2], body(n)[n/3:]) {
			t.Errorf("Sum of two pieces of %d bytes = %x", n, got)
		}
	}
}
