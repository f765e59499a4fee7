package mode_test

import (
	"bytes"
	library "crypto/aes"
	"crypto/cipher"
	"encoding/hex"
	"math/big"
	"math/rand/v2"
	"slices"
	"strings"
	"testing"

	"sealring/aes"
	"sealring/api"
	"sealring/mode"
)

// sizes that a key may have.
var sizes = []int{16, 24, 32}

// unhex: the bytes of a text of base 16, which may have gaps.
func unhex(t *testing.T, s string) []byte {
	t.Helper()
	b, err := hex.DecodeString(strings.ReplaceAll(s, " ", ""))
	if err != nil {
		t.Fatal(err)
	}
	return b
}

// drawn: n bytes.
func drawn(r *rand.Rand, n int) []byte {
	b := make([]byte, n)
	for i := range b {
		b[i] = byte(r.Uint32())
	}
	return b
}

// drawnBlock: one of sixteen bytes.
func drawnBlock(r *rand.Rand) [16]byte { return [16]byte(drawn(r, 16)) }

// both: a key, of the project and of Go's own library.
type both struct {
	k aes.Key
	c cipher.Block
}

// expand a key for both.
func expand(t *testing.T, key []byte) both {
	t.Helper()
	k, e := aes.Expand(key)
	c, err := library.NewCipher(key)
	if e != api.OK || err != nil {
		t.Fatal(len(key), e, err)
	}
	return both{k, c}
}

// drawnKeys: one of each size.
func drawnKeys(t *testing.T, r *rand.Rand) []both {
	t.Helper()
	var out []both
	for _, n := range sizes {
		out = append(out, expand(t, drawn(r, n)))
	}
	return out
}

// streamBlock: block n of a stream as P110 tells it, by numbers of any size.
func streamBlock(c cipher.Block, iv [16]byte, n uint64) [16]byte {
	x := new(big.Int).SetBytes(iv[:])
	x.Add(x, new(big.Int).SetUint64(n))
	x.Mod(x, new(big.Int).Lsh(big.NewInt(1), 128))
	var b [16]byte
	x.FillBytes(b[:])
	c.Encrypt(b[:], b[:])
	return b
}

// streamed: what Stream is to answer, each byte by itself.
func streamed(c cipher.Block, iv [16]byte, at uint64, p []byte) []byte {
	out := make([]byte, len(p))
	for i := range p {
		place := at + uint64(i)
		b := streamBlock(c, iv, place/16)
		out[i] = p[i] ^ b[place%16]
	}
	return out
}

// holdStream against what it is to answer.
func holdStream(t *testing.T, k both, iv [16]byte, at uint64, p []byte) {
	t.Helper()
	if got, want := mode.Stream(k.k, iv, at, p), streamed(k.c, iv, at, p); !bytes.Equal(got, want) {
		t.Errorf("by %x from %d on %x becomes\n%x; want\n%x", iv, at, p, got, want)
	}
}

// chained: blocks as they come out one by one, without any padding.
func chained(c cipher.Block, iv [16]byte, p []byte) []byte {
	out := make([]byte, len(p))
	cipher.NewCBCEncrypter(c, iv[:]).CryptBlocks(out, p)
	return out
}

// sealed: what Seal is to answer.
func sealed(c cipher.Block, iv [16]byte, p []byte) []byte {
	whole := slices.Clone(p)
	n := 16 - len(p)%16
	return chained(c, iv, append(whole, bytes.Repeat([]byte{byte(n)}, n)...))
}

// opened: what Open is to answer.
func opened(c cipher.Block, iv [16]byte, b []byte) ([]byte, api.Errno) {
	if len(b) == 0 || len(b)%16 != 0 {
		return nil, api.ErrArg
	}
	out := make([]byte, len(b))
	cipher.NewCBCDecrypter(c, iv[:]).CryptBlocks(out, b)
	n := int(out[len(out)-1])
	if n < 1 || n > 16 || !bytes.HasSuffix(out, bytes.Repeat([]byte{byte(n)}, n)) {
		return nil, api.ErrForm
	}
	return out[:len(out)-n], api.OK
}

// holdSeal of p, and that Open leads back.
func holdSeal(t *testing.T, k both, iv [16]byte, p []byte) {
	t.Helper()
	got, want := mode.Seal(k.k, iv, p), sealed(k.c, iv, p)
	if len(got) != len(p)/16*16+16 || !bytes.Equal(got, want) {
		t.Errorf("by %x %x is sealed to\n%x; want\n%x", iv, p, got, want)
	}
	if back, e := mode.Open(k.k, iv, want); e != api.OK || !bytes.Equal(back, p) {
		t.Errorf("by %x %x is opened to\n%x, %d; want\n%x", iv, want, back, e, p)
	}
}

// holdOpen against what it is to answer; told is that error.
func holdOpen(t *testing.T, k both, iv [16]byte, c []byte) (told api.Errno) {
	t.Helper()
	got, e := mode.Open(k.k, iv, c)
	want, told := opened(k.c, iv, c)
	if e != told || !bytes.Equal(got, want) {
		t.Errorf("by %x %x is opened to\n%x, %d; want\n%x, %d", iv, c, got, e, want, told)
	}
	return told
}

// The keys and the text of SP 800-38A, appendix F.
const (
	smallKey  = "2b7e151628aed2a6abf7158809cf4f3c"
	middleKey = "8e73b0f7da0e6452c810f32b809079e562f8ead2522c6b7b"
	greatKey  = "603deb1015ca71be2b73aef0857d77811f352c073b6108d72d9810a30914dff4"
	fourText  = "6bc1bee22e409f96e93d7e117393172a ae2d8a571e03ac9c9eb76fac45af8e51 30c81c46a35ce411e5fbc1191a0a52ef f69f2445df4f9b17ad2b417be66c3710"
)

// TestP110Published: SP 800-38A, F.5.
func TestP110Published(t *testing.T) {
	iv := [16]byte(unhex(t, "f0f1f2f3f4f5f6f7f8f9fafbfcfdfeff"))
	p := unhex(t, fourText)
	for _, c := range []struct{ key, out string }{
		{smallKey, "874d6191b620e3261bef6864990db6ce 9806f66b7970fdff8617187bb9fffdff 5ae4df3edbd5d35e5b4f09020db03eab 1e031dda2fbe03d1792170a0f3009cee"},
		{middleKey, "1abc932417521ca24f2b0459fe7e6e0b 090339ec0aa6faefd5ccc2c6f4ce8e94 1e36b26bd1ebc670d1bd1d665620abf7 4f78a7f6d29809585a97daec58c6b050"},
		{greatKey, "601ec313775789a5b7a7f504bbf3d228 f443e3ca4d62b59aca84e990cacaf5c5 2b0930daa23de94ce87017ba2d84988d dfc9c58db67aada613c2dd08457941a6"},
	} {
		k, out := expand(t, unhex(t, c.key)), unhex(t, c.out)
		if got := mode.Stream(k.k, iv, 0, p); !bytes.Equal(got, out) {
			t.Errorf("by %s:\n%x; want\n%x", c.key, got, out)
		}
		if got := mode.Stream(k.k, iv, 0, out); !bytes.Equal(got, p) {
			t.Errorf("by %s and back:\n%x; want\n%x", c.key, got, p)
		}
	}
}

// TestP110EveryLengthAndPlace: over two borders of blocks, from each place within the first ones.
func TestP110EveryLengthAndPlace(t *testing.T) {
	r := rand.New(rand.NewPCG(110, 1))
	for _, k := range drawnKeys(t, r) {
		iv := drawnBlock(r)
		for n := range 50 {
			for at := range uint64(35) {
				holdStream(t, k, iv, at, drawn(r, n))
			}
		}
	}
}

// TestP110BytesZero: of these it tells the stream itself, block by block.
func TestP110BytesZero(t *testing.T) {
	r := rand.New(rand.NewPCG(110, 2))
	for _, k := range drawnKeys(t, r) {
		iv := drawnBlock(r)
		got := mode.Stream(k.k, iv, 0, make([]byte, 16*300))
		for n := range 300 {
			if want := streamBlock(k.c, iv, uint64(n)); !bytes.Equal(got[16*n:16*n+16], want[:]) {
				t.Errorf("block %d is %x; want %x", n, got[16*n:16*n+16], want)
			}
		}
		if first := k.k.Encrypt(iv); !bytes.Equal(got[:16], first[:]) {
			t.Errorf("block 0 is %x, not Encrypt of iv", got[:16])
		}
	}
}

// TestP110IvGoesOver: from each byte of iv to the one ahead of it, and from the first one to none.
func TestP110IvGoesOver(t *testing.T) {
	r := rand.New(rand.NewPCG(110, 3))
	for _, k := range drawnKeys(t, r) {
		for full := range 17 {
			for _, ahead := range []byte{0, 1, 0x7f, 0xfe} {
				for _, less := range []byte{0, 1, 2} {
					iv := drawnBlock(r)
					for i := 16 - full; i < 16; i++ {
						iv[i] = 255
					}
					if full < 16 {
						iv[15-full] = ahead
					}
					iv[15] -= less
					holdStream(t, k, iv, 0, drawn(r, 70))
					holdStream(t, k, iv, 31, drawn(r, 2))
				}
			}
		}
	}
}

// TestP110LastIv: behind the block of 2^128 - 1 comes that of 0.
func TestP110LastIv(t *testing.T) {
	r := rand.New(rand.NewPCG(110, 4))
	for _, k := range drawnKeys(t, r) {
		iv := [16]byte(bytes.Repeat([]byte{255}, 16))
		one, two, three := k.k.Encrypt(iv), k.k.Encrypt([16]byte{}), k.k.Encrypt([16]byte{15: 1})
		want := slices.Concat(one[:], two[:], three[:])
		if got := mode.Stream(k.k, iv, 0, make([]byte, 48)); !bytes.Equal(got, want) {
			t.Errorf("%x; want %x", got, want)
		}
	}
}

// TestP110FarPlaces: around each power of 2 that a place may be near, with an iv that goes over there and with a drawn one.
func TestP110FarPlaces(t *testing.T) {
	r := rand.New(rand.NewPCG(110, 5))
	full := [16]byte(bytes.Repeat([]byte{255}, 16))
	for _, k := range drawnKeys(t, r) {
		for bit := 4; bit < 64; bit++ {
			for _, less := range []uint64{0, 1, 15, 16, 17, 33} {
				at := uint64(1)<<bit - less
				holdStream(t, k, full, at, drawn(r, 40))
				holdStream(t, k, drawnBlock(r), at, drawn(r, 40))
				holdStream(t, k, [16]byte{8: 255, 9: 255, 10: 255, 11: 255, 12: 255, 13: 255, 14: 255, 15: 255}, at, drawn(r, 20))
			}
		}
		for range 200 {
			holdStream(t, k, drawnBlock(r), r.Uint64(), drawn(r, r.IntN(60)))
		}
	}
}

// TestP110PlacesGoOver: behind place 2^64 - 1 comes place 0, from block 2^60 - 1 to block 0.
func TestP110PlacesGoOver(t *testing.T) {
	r := rand.New(rand.NewPCG(110, 6))
	for _, k := range drawnKeys(t, r) {
		iv := drawnBlock(r)
		for less := range uint64(36) {
			for n := range 50 {
				holdStream(t, k, iv, -less, drawn(r, n))
			}
		}
		first := mode.Stream(k.k, iv, 0, make([]byte, 20))
		if got := mode.Stream(k.k, iv, 1<<64-3, make([]byte, 23)); !bytes.Equal(got[3:], first) {
			t.Errorf("behind the last place comes %x; want %x", got[3:], first)
		}
	}
}

func TestP110Nothing(t *testing.T) {
	r := rand.New(rand.NewPCG(110, 7))
	for _, k := range drawnKeys(t, r) {
		for _, at := range []uint64{0, 1, 5, 15, 16, 1 << 63, 1<<64 - 1} {
			if len(mode.Stream(k.k, drawnBlock(r), at, nil)) != 0 || len(mode.Stream(k.k, drawnBlock(r), at, []byte{})) != 0 {
				t.Errorf("of nothing from %d on comes something", at)
			}
		}
	}
}

// TestP110Parts: in parts, each at its place, it is what it is at once, and twice it leads back.
func TestP110Parts(t *testing.T) {
	r := rand.New(rand.NewPCG(110, 8))
	for _, k := range drawnKeys(t, r) {
		for range 60 {
			iv, at, p := drawnBlock(r), r.Uint64(), drawn(r, r.IntN(300))
			whole := mode.Stream(k.k, iv, at, p)
			var parts []byte
			for len(parts) < len(p) {
				n := len(parts)
				end := n + r.IntN(min(len(p)-n, 40)+1)
				parts = append(parts, mode.Stream(k.k, iv, at+uint64(n), p[n:end])...)
			}
			if !bytes.Equal(parts, whole) {
				t.Errorf("%d bytes in parts:\n%x; want\n%x", len(p), parts, whole)
			}
			if back := mode.Stream(k.k, iv, at, whole); !bytes.Equal(back, p) {
				t.Errorf("%d bytes twice:\n%x; want\n%x", len(p), back, p)
			}
		}
	}
}

// TestP111Published: SP 800-38A, F.2: four blocks, and one more of padding.
func TestP111Published(t *testing.T) {
	iv := [16]byte(unhex(t, "000102030405060708090a0b0c0d0e0f"))
	p := unhex(t, fourText)
	for _, c := range []struct{ key, out string }{
		{smallKey, "7649abac8119b246cee98e9b12e9197d 5086cb9b507219ee95db113a917678b2 73bed6b8e3c1743b7116e69e22229516 3ff1caa1681fac09120eca307586e1a7"},
		{middleKey, "4f021db243bc633d7178183a9fa071e8 b4d9ada9ad7dedf4e5e738763f69145a 571b242012fb7ae07fa9baac3df102e0 08b0e27988598881d920a9e64f5615cd"},
		{greatKey, "f58c4c04d6e5f1ba779eabfb5f7bfbd6 9cfc4e967edb808d679f777bc6702c7d 39f23369a9d9bacfa530e26304231461 b2eb05e2c39be9fcda6c19078c6a9d1b"},
	} {
		k, out := expand(t, unhex(t, c.key)), unhex(t, c.out)
		got := mode.Seal(k.k, iv, p)
		if len(got) != 80 || !bytes.Equal(got[:64], out) {
			t.Errorf("by %s:\n%x; want\n%x, and 16 more", c.key, got, out)
		}
		holdSeal(t, k, iv, p)
	}
}

func TestP111EveryLength(t *testing.T) {
	r := rand.New(rand.NewPCG(111, 1))
	for _, k := range drawnKeys(t, r) {
		for n := range 130 {
			holdSeal(t, k, drawnBlock(r), drawn(r, n))
			holdSeal(t, k, [16]byte{}, make([]byte, n))
			holdSeal(t, k, [16]byte(bytes.Repeat([]byte{255}, 16)), bytes.Repeat([]byte{255}, n))
		}
	}
}

func TestP111Nothing(t *testing.T) {
	r := rand.New(rand.NewPCG(111, 2))
	for _, k := range drawnKeys(t, r) {
		iv := drawnBlock(r)
		holdSeal(t, k, iv, nil)
		holdSeal(t, k, iv, []byte{})
		alone := iv
		for i := range alone {
			alone[i] ^= 16
		}
		if want := k.k.Encrypt(alone); !bytes.Equal(mode.Seal(k.k, iv, nil), want[:]) {
			t.Errorf("nothing is sealed to %x; want %x", mode.Seal(k.k, iv, nil), want)
		}
	}
}

// TestP111TextLikePadding: a text that ends as if it were padded has more put behind it, and only that is taken off.
func TestP111TextLikePadding(t *testing.T) {
	r := rand.New(rand.NewPCG(111, 3))
	for _, k := range drawnKeys(t, r) {
		for v := range 20 {
			for n := range 34 {
				holdSeal(t, k, drawnBlock(r), bytes.Repeat([]byte{byte(v)}, n))
				holdSeal(t, k, drawnBlock(r), append(drawn(r, 16-n%16), bytes.Repeat([]byte{byte(v)}, n)...))
			}
		}
	}
}

// TestP111OtherLengths: ErrArg and no list, also for the first bytes of what would be opened as a whole.
func TestP111OtherLengths(t *testing.T) {
	r := rand.New(rand.NewPCG(111, 4))
	for _, k := range drawnKeys(t, r) {
		iv := drawnBlock(r)
		for _, c := range [][]byte{nil, {}} {
			if q, e := mode.Open(k.k, iv, c); q != nil || e != api.ErrArg {
				t.Errorf("nothing is opened to %x, %d", q, e)
			}
		}
		lengths := []int{1<<16 + 1, 1<<16 + 8, 1<<16 - 1}
		for n := range 300 {
			lengths = append(lengths, n)
		}
		whole := mode.Seal(k.k, iv, drawn(r, 300))
		for _, n := range lengths {
			if n%16 == 0 && n > 0 {
				continue
			}
			if q, e := mode.Open(k.k, iv, make([]byte, n)); q != nil || e != api.ErrArg {
				t.Errorf("%d bytes are opened to %x, %d", n, q, e)
			}
			if n < len(whole) {
				if q, e := mode.Open(k.k, iv, whole[:n]); q != nil || e != api.ErrArg {
					t.Errorf("the first %d bytes are opened to %x, %d", n, q, e)
				}
			}
		}
	}
}

// TestP111EveryLastByte: of one block and of three, each last byte alone, as often as it says, once less, once more, and all over.
func TestP111EveryLastByte(t *testing.T) {
	r := rand.New(rand.NewPCG(111, 5))
	for _, k := range drawnKeys(t, r) {
		for _, size := range []int{16, 48} {
			for last := range 256 {
				for _, many := range []int{1, min(last, size), min(max(last-1, 1), size), min(last+1, size), size} {
					p := drawn(r, size)
					copy(p[size-many:], bytes.Repeat([]byte{byte(last)}, many))
					iv := drawnBlock(r)
					holdOpen(t, k, iv, chained(k.c, iv, p))
				}
			}
		}
	}
}

// TestP111EachWrongByte: of n bytes that are to be n, each one alone is another one, by any bit.
func TestP111EachWrongByte(t *testing.T) {
	r := rand.New(rand.NewPCG(111, 6))
	k := expand(t, drawn(r, 16))
	for n := 1; n <= 16; n++ {
		p := append(drawn(r, 32-n), bytes.Repeat([]byte{byte(n)}, n)...)
		p[31-n] = 255
		iv := drawnBlock(r)
		if e := holdOpen(t, k, iv, chained(k.c, iv, p)); e != api.OK {
			t.Errorf("%d bytes of padding: %d", n, e)
		}
		for i := 32 - n; i < 31; i++ {
			for bit := range 8 {
				p[i] ^= 1 << bit
				if q, e := mode.Open(k.k, iv, chained(k.c, iv, p)); q != nil || e != api.ErrForm {
					t.Errorf("%x is opened to %x, %d", p, q, e)
				}
				p[i] ^= 1 << bit
			}
		}
	}
}

// TestP111Paddings: some that are none, and then some that are one, with how many bytes are ahead of it.
func TestP111Paddings(t *testing.T) {
	r := rand.New(rand.NewPCG(111, 7))
	for _, k := range drawnKeys(t, r) {
		for _, p := range [][]byte{
			make([]byte, 16),
			make([]byte, 32),
			bytes.Repeat([]byte{17}, 32),
			bytes.Repeat([]byte{32}, 32),
			bytes.Repeat([]byte{48}, 64),
			bytes.Repeat([]byte{255}, 512),
			bytes.Repeat([]byte{128}, 256),
			append(make([]byte, 15), 2),
			append(bytes.Repeat([]byte{16}, 15), 15),
			append([]byte{15}, bytes.Repeat([]byte{16}, 15)...),
		} {
			iv := drawnBlock(r)
			if q, e := mode.Open(k.k, iv, chained(k.c, iv, p)); q != nil || e != api.ErrForm {
				t.Errorf("%x is opened to %x, %d", p, q, e)
			}
		}
		for _, c := range []struct {
			p    []byte
			left int
		}{
			{append(make([]byte, 15), 1), 15},
			{append(bytes.Repeat([]byte{1}, 15), 1), 15},
			{bytes.Repeat([]byte{16}, 16), 0},
			{bytes.Repeat([]byte{16}, 32), 16},
			{append([]byte{16}, bytes.Repeat([]byte{15}, 15)...), 1},
			{bytes.Repeat([]byte{2}, 48), 46},
		} {
			iv := drawnBlock(r)
			if q, e := mode.Open(k.k, iv, chained(k.c, iv, c.p)); !bytes.Equal(q, c.p[:c.left]) || e != api.OK {
				t.Errorf("%x is opened to %x, %d", c.p, q, e)
			}
		}
	}
}

// TestP111AnyBlocks: drawn ones, which nobody sealed; some have a padding by chance.
func TestP111AnyBlocks(t *testing.T) {
	r := rand.New(rand.NewPCG(111, 8))
	k := expand(t, drawn(r, 24))
	told := map[api.Errno]int{}
	for range 3000 {
		told[holdOpen(t, k, drawnBlock(r), drawn(r, 16+16*r.IntN(3)))]++
	}
	if told[api.OK] == 0 || told[api.ErrForm] == 0 {
		t.Errorf("not each answer was met: %v", told)
	}
}

// TestP111OneBlockIsAnother: it shows in what is opened of it and of the next one, and iv in the first one alone.
func TestP111OneBlockIsAnother(t *testing.T) {
	r := rand.New(rand.NewPCG(111, 9))
	for _, k := range drawnKeys(t, r) {
		iv, p := drawnBlock(r), drawn(r, 100)
		c := mode.Seal(k.k, iv, p)
		for i := range 16 {
			turned := iv
			turned[i] ^= 0x41
			want := slices.Clone(p)
			want[i] ^= 0x41
			if q, e := mode.Open(k.k, turned, c); e != api.OK || !bytes.Equal(q, want) {
				t.Errorf("by another iv: %x, %d; want %x", q, e, want)
			}
		}
		for i := range len(c) {
			turned := slices.Clone(c)
			turned[i] ^= 0x14
			holdOpen(t, k, iv, turned)
		}
	}
}

// TestP111AnotherKey: what was sealed by one key is opened by another one as any blocks are.
func TestP111AnotherKey(t *testing.T) {
	r := rand.New(rand.NewPCG(111, 10))
	for _, k := range drawnKeys(t, r) {
		for _, o := range drawnKeys(t, r) {
			iv := drawnBlock(r)
			holdOpen(t, o, iv, mode.Seal(k.k, iv, drawn(r, 50)))
		}
	}
}

// TestP110P111LongTexts: of MaxText bytes and around it.
func TestP110P111LongTexts(t *testing.T) {
	r := rand.New(rand.NewPCG(110, 111))
	for _, n := range []int{api.MaxText - 1, api.MaxText} {
		k, iv, p := expand(t, drawn(r, 32)), drawnBlock(r), drawn(r, n)
		iv[14], iv[15] = 255, 200
		want := make([]byte, n)
		cipher.NewCTR(k.c, iv[:]).XORKeyStream(want, p)
		if got := mode.Stream(k.k, iv, 0, p); !bytes.Equal(got, want) {
			t.Errorf("a stream of %d bytes is another one", n)
		}
		c := mode.Seal(k.k, iv, p)
		if !bytes.Equal(c, sealed(k.c, iv, p)) {
			t.Errorf("%d bytes are sealed to others", n)
		}
		if q, e := mode.Open(k.k, iv, c); e != api.OK || !bytes.Equal(q, p) {
			t.Errorf("%d bytes are not opened again: %d", n, e)
		}
	}
}

// TestP1ZeroKey: a key that is not to be used gets an answer all the same.
func TestP1ZeroKey(t *testing.T) {
	for n := range 40 {
		if got := mode.Stream(aes.Key{}, [16]byte{}, 1<<64-7, make([]byte, n)); len(got) != n {
			t.Errorf("a stream of %d bytes has %d", n, len(got))
		}
		if got := mode.Seal(aes.Key{}, [16]byte{}, make([]byte, n)); len(got) != n/16*16+16 {
			t.Errorf("%d bytes are sealed to %d", n, len(got))
		}
		mode.Open(aes.Key{}, [16]byte{}, make([]byte, n))
	}
}

// roomy: a copy of b with room behind it that a call might write to.
func roomy(b []byte) []byte {
	room := bytes.Repeat([]byte{0xa5}, len(b)+64)
	copy(room, b)
	return room[:len(b)]
}

// asItWas: does b, of roomy, still hold want and the room behind it?
func asItWas(b, want []byte) bool {
	all := b[:cap(b)]
	return bytes.Equal(all[:len(b)], want) && bytes.Equal(all[len(b):], bytes.Repeat([]byte{0xa5}, 64))
}

// fill b, and the room behind it, so that what shares memory with it shows.
func fill(b []byte) {
	all := b[:cap(b)]
	for i := range all {
		all[i] = 0xee
	}
}

// TestP2WhatIsHandedInIsApart: it stays, and what is done with it or with an answer later shows in neither.
func TestP2WhatIsHandedInIsApart(t *testing.T) {
	r := rand.New(rand.NewPCG(2, 1))
	k := expand(t, drawn(r, 16))
	calls := map[string]func(iv [16]byte, b []byte) []byte{
		"Stream": func(iv [16]byte, b []byte) []byte { return mode.Stream(k.k, iv, 3, b) },
		"Seal":   func(iv [16]byte, b []byte) []byte { return mode.Seal(k.k, iv, b) },
		"Open": func(iv [16]byte, b []byte) []byte {
			out, _ := mode.Open(k.k, iv, b)
			return out
		},
	}
	for n := range 70 {
		iv, p := drawnBlock(r), drawn(r, n)
		c := sealed(k.c, iv, p)
		for name, call := range calls {
			was := p
			if name == "Open" {
				was = c
			}
			b := roomy(was)
			one, two := call(iv, b), call(iv, b)
			want := slices.Clone(one)
			if !asItWas(b, was) {
				t.Errorf("%s of %d bytes changed them or the room behind them", name, n)
			}
			fill(b)
			if !bytes.Equal(one, want) || !bytes.Equal(two, want) {
				t.Errorf("%s of %d bytes: a later change of these shows", name, n)
			}
			b = roomy(was)
			three := call(iv, b)
			fill(one)
			fill(three)
			if !bytes.Equal(two, want) || !asItWas(b, was) {
				t.Errorf("%s of %d bytes: what is done with an answer shows elsewhere", name, n)
			}
			if again := call(iv, slices.Clone(was)); !bytes.Equal(again, want) {
				t.Errorf("%s of %d bytes, asked again: %x; want %x", name, n, again, want)
			}
		}
	}
}

// TestP2WrongOnesStay: what can't be opened is not changed, and what is opened behind it is as if it had not been.
func TestP2WrongOnesStay(t *testing.T) {
	r := rand.New(rand.NewPCG(2, 2))
	k, iv := expand(t, drawn(r, 32)), drawnBlock(r)
	right := sealed(k.c, iv, []byte("text"))
	for _, was := range [][]byte{drawn(r, 15), drawn(r, 33), chained(k.c, iv, make([]byte, 32)), chained(k.c, iv, bytes.Repeat([]byte{17}, 48))} {
		b := roomy(was)
		if q, e := mode.Open(k.k, iv, b); q != nil || e == api.OK || !asItWas(b, was) {
			t.Errorf("%x is opened to %x, %d, or became %x", was, q, e, b[:cap(b)])
		}
		if q, e := mode.Open(k.k, iv, right); string(q) != "text" || e != api.OK {
			t.Errorf("behind a wrong one: %x, %d", q, e)
		}
	}
}
