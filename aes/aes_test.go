package aes_test

import (
	"bytes"
	library "crypto/aes"
	"crypto/cipher"
	"encoding/hex"
	"math/rand/v2"
	"slices"
	"strings"
	"testing"

	"sealring/aes"
	"sealring/api"
)

// sizes that a key may have.
var sizes = []int{16, 24, 32}

// unhex: the bytes of a text of base 16, which may have gaps.
func unhex(t *testing.T, s string) []byte {
	t.Helper()
	b, err := hex.DecodeString(strings.ReplaceAll(s, " ", ""))
	if err != nil {
		t.Fatal(err)
	}
	return b
}

// drawn: n bytes.
func drawn(r *rand.Rand, n int) []byte {
	b := make([]byte, n)
	for i := range b {
		b[i] = byte(r.Uint32())
	}
	return b
}

// drawnBlock: one of sixteen bytes.
func drawnBlock(r *rand.Rand) [16]byte { return [16]byte(drawn(r, 16)) }

// expand a key that may be one.
func expand(t *testing.T, key []byte) aes.Key {
	t.Helper()
	k, e := aes.Expand(key)
	if e != api.OK {
		t.Fatalf("a key of %d bytes: %d", len(key), e)
	}
	return k
}

// other: the same key, of Go's own library.
func other(t *testing.T, key []byte) cipher.Block {
	t.Helper()
	c, err := library.NewCipher(key)
	if err != nil {
		t.Fatal(err)
	}
	return c
}

// hold k against the library's c by one block, there and back and back and there.
func hold(t *testing.T, k aes.Key, c cipher.Block, b [16]byte) {
	t.Helper()
	var out, back [16]byte
	c.Encrypt(out[:], b[:])
	c.Decrypt(back[:], b[:])
	if got := k.Encrypt(b); got != out {
		t.Errorf("Encrypt of %x is %x; want %x", b, got, out)
	}
	if got := k.Decrypt(b); got != back {
		t.Errorf("Decrypt of %x is %x; want %x", b, got, back)
	}
	if got := k.Decrypt(out); got != b {
		t.Errorf("Decrypt of %x is %x; want %x", out, got, b)
	}
	if got := k.Encrypt(back); got != b {
		t.Errorf("Encrypt of %x is %x; want %x", back, got, b)
	}
}

// subs: Sub of each byte, by walking through the powers of 3 (which are all bytes but 0) and of its inverse.
func subs() [256]byte {
	var out [256]byte
	out[0] = 99
	p, q := byte(1), byte(1)
	for range 255 {
		p ^= p<<1 ^ p>>7*0x1b
		q ^= q << 1
		q ^= q << 2
		q ^= q << 4
		q ^= q >> 7 * 9
		wide := uint(q) * 0x101
		out[p] = byte(wide>>8^wide>>7^wide>>6^wide>>5^wide>>4) ^ 99
	}
	return out
}

// words of a key as P100 tells them, without the project's packages.
func words(key []byte) [][4]byte {
	sub := subs()
	twos := []byte{0x01, 0x02, 0x04, 0x08, 0x10, 0x20, 0x40, 0x80, 0x1b, 0x36}
	n := len(key) / 4
	w := make([][4]byte, 4*(n+6)+4)
	for i := range w {
		if i < n {
			w[i] = [4]byte{key[4*i], key[4*i+1], key[4*i+2], key[4*i+3]}
			continue
		}
		x := w[i-1]
		if i%n == 0 {
			x = [4]byte{sub[x[1]] ^ twos[i/n-1], sub[x[2]], sub[x[3]], sub[x[0]]}
		} else if n == 8 && (i-4)%8 == 0 {
			x = [4]byte{sub[x[0]], sub[x[1]], sub[x[2]], sub[x[3]]}
		}
		for j := range x {
			w[i][j] = w[i-n][j] ^ x[j]
		}
	}
	return w
}

// keys: of each size all 0, all 255, in order, with one bit alone and all but one, and drawn ones.
func keys() [][]byte {
	r := rand.New(rand.NewPCG(100, 100))
	var out [][]byte
	for _, n := range sizes {
		rising := make([]byte, n)
		for i := range rising {
			rising[i] = byte(i)
		}
		out = append(out, make([]byte, n), bytes.Repeat([]byte{255}, n), rising)
		for i := range 8 * n {
			one, rest := make([]byte, n), bytes.Repeat([]byte{255}, n)
			one[i/8] ^= 1 << (i % 8)
			rest[i/8] ^= 1 << (i % 8)
			out = append(out, one, rest)
		}
		for range 200 {
			out = append(out, drawn(r, n))
		}
	}
	return out
}

// TestP100Published: FIPS 197, appendix A: each key and then all further words.
func TestP100Published(t *testing.T) {
	for _, c := range []struct{ key, further string }{
		{"2b7e151628aed2a6abf7158809cf4f3c", "a0fafe17 88542cb1 23a33939 2a6c7605 f2c295f2 7a96b943 5935807a 7359f67f" +
			"3d80477d 4716fe3e 1e237e44 6d7a883b ef44a541 a8525b7f b671253b db0bad00 d4d1c6f8 7c839d87 caf2b8bc 11f915bc" +
			"6d88a37a 110b3efd dbf98641 ca0093fd 4e54f70e 5f5fc9f3 84a64fb2 4ea6dc4f ead27321 b58dbad2 312bf560 7f8d292f" +
			"ac7766f3 19fadc21 28d12941 575c006e d014f9a8 c9ee2589 e13f0cc8 b6630ca6"},
		{"8e73b0f7da0e6452c810f32b809079e562f8ead2522c6b7b", "fe0c91f7 2402f5a5 ec12068e 6c827f6b 0e7a95b9 5c56fec2" +
			"4db7b4bd 69b54118 85a74796 e92538fd e75fad44 bb095386 485af057 21efb14f a448f6d9 4d6dce24 aa326360 113b30e6" +
			"a25e7ed5 83b1cf9a 27f93943 6a94f767 c0a69407 d19da4e1 ec1786eb 6fa64971 485f7032 22cb8755 e26d1352 33f0b7b3" +
			"40beeb28 2f18a259 6747d26b 458c553e a7e1466c 9411f1df 821f750a ad07d753 ca400538 8fcc5006 282d166a bc3ce7b5" +
			"e98ba06f 448c773c 8ecc7204 01002202"},
		{"603deb1015ca71be2b73aef0857d77811f352c073b6108d72d9810a30914dff4", "9ba35411 8e6925af a51a8b5f 2067fcde" +
			"a8b09c1a 93d194cd be49846e b75d5b9a d59aecb8 5bf3c917 fee94248 de8ebe96 b5a9328a 2678a647 98312229 2f6c79b3" +
			"812c81ad dadf48ba 24360af2 fab8b464 98c5bfc9 bebd198e 268c3ba7 09e04214 68007bac b2df3316 96e939e4 6c518d80" +
			"c814e204 76a9fb8a 5025c02d 59c58239 de136967 6ccc5a71 fa256395 9674ee15 5886ca5d 2e2f31d7 7e0af1fa 27cf73c3" +
			"749c47ab 18501dda e2757e4f 7401905a cafaaae3 e4d59b34 9adf6ace bd10190d fe4890d1 e6188d0b 046df344 706c631e"},
	} {
		var got []byte
		for _, w := range expand(t, unhex(t, c.key)).Words() {
			got = append(got, w[:]...)
		}
		if want := unhex(t, c.key+c.further); !bytes.Equal(got, want) {
			t.Errorf("the words of %s:\n%x; want\n%x", c.key, got, want)
		}
	}
}

func TestP100EachWord(t *testing.T) {
	for _, key := range keys() {
		got, want := expand(t, key).Words(), words(key)
		if len(got) != len(key)+28 || !slices.Equal(got, want) {
			t.Errorf("the words of %x:\n%x; want\n%x", key, got, want)
		}
	}
}

// TestP100OneWordAlone: a key's last word alone, with each byte at each place, as the first later one hangs on it by Sub.
func TestP100OneWordAlone(t *testing.T) {
	for _, n := range sizes {
		for place := n - 4; place < n; place++ {
			for v := range 256 {
				key := make([]byte, n)
				key[place] = byte(v)
				if got, want := expand(t, key).Words(), words(key); !slices.Equal(got, want) {
					t.Errorf("the words of %x:\n%x; want\n%x", key, got, want)
				}
			}
		}
	}
}

// TestP100OtherSizes: ErrArg, and a Key that is zero; also where the size is right but for its higher bits.
func TestP100OtherSizes(t *testing.T) {
	wrong := []int{1<<16 + 16, 1<<16 + 24, 1<<16 + 32, 1 << 20, 1<<24 + 16}
	for n := range 700 {
		if !slices.Contains(sizes, n) {
			wrong = append(wrong, n)
		}
	}
	for _, n := range wrong {
		if k, e := aes.Expand(make([]byte, n)); e != api.ErrArg || k != (aes.Key{}) {
			t.Errorf("a key of %d bytes: %d, and zero beside it: %t", n, e, k == aes.Key{})
		}
	}
	if k, e := aes.Expand(nil); e != api.ErrArg || k != (aes.Key{}) {
		t.Errorf("no key: %d, and zero beside it: %t", e, k == aes.Key{})
	}
}

// TestP100RoomBehind: how much room is behind a key's bytes counts for nothing.
func TestP100RoomBehind(t *testing.T) {
	r := rand.New(rand.NewPCG(100, 1))
	for _, size := range sizes {
		all := drawn(r, 64)
		if got := expand(t, all[:size]); got != expand(t, slices.Clone(all[:size])) {
			t.Errorf("%d bytes of 64: another key", size)
		}
		for _, n := range []int{size - 1, size + 1} {
			if _, e := aes.Expand(all[: n : size+1]); e != api.ErrArg {
				t.Errorf("%d bytes, room for %d: %d", n, size+1, e)
			}
		}
	}
}

// TestP101Published: FIPS 197, appendices B and C, SP 800-38A, F.1, and bytes 0 alone by a key of them.
func TestP101Published(t *testing.T) {
	const (
		rising = "000102030405060708090a0b0c0d0e0f101112131415161718191a1b1c1d1e1f"
		small  = "2b7e151628aed2a6abf7158809cf4f3c"
		middle = "8e73b0f7da0e6452c810f32b809079e562f8ead2522c6b7b"
		great  = "603deb1015ca71be2b73aef0857d77811f352c073b6108d72d9810a30914dff4"
	)
	for _, c := range []struct{ key, block, out string }{
		{rising[:32], "00112233445566778899aabbccddeeff", "69c4e0d86a7b0430d8cdb78070b4c55a"},
		{rising[:48], "00112233445566778899aabbccddeeff", "dda97ca4864cdfe06eaf70a0ec0d7191"},
		{rising, "00112233445566778899aabbccddeeff", "8ea2b7ca516745bfeafc49904b496089"},
		{small, "3243f6a8885a308d313198a2e0370734", "3925841d02dc09fbdc118597196a0b32"},
		{small, "6bc1bee22e409f96e93d7e117393172a", "3ad77bb40d7a3660a89ecaf32466ef97"},
		{small, "ae2d8a571e03ac9c9eb76fac45af8e51", "f5d3d58503b9699de785895a96fdbaaf"},
		{small, "30c81c46a35ce411e5fbc1191a0a52ef", "43b1cd7f598ece23881b00e3ed030688"},
		{small, "f69f2445df4f9b17ad2b417be66c3710", "7b0c785e27e8ad3f8223207104725dd4"},
		{middle, "6bc1bee22e409f96e93d7e117393172a", "bd334f1d6e45f25ff712a214571fa5cc"},
		{middle, "ae2d8a571e03ac9c9eb76fac45af8e51", "974104846d0ad3ad7734ecb3ecee4eef"},
		{great, "6bc1bee22e409f96e93d7e117393172a", "f3eed1bdb5d2a03c064b5a7e3db181f8"},
		{great, "ae2d8a571e03ac9c9eb76fac45af8e51", "591ccb10d410ed26dc5ba74a31362870"},
		{strings.Repeat("0", 32), strings.Repeat("0", 32), "66e94bd4ef8a2c3b884cfa59ca342b2e"},
	} {
		k := expand(t, unhex(t, c.key))
		b, out := [16]byte(unhex(t, c.block)), [16]byte(unhex(t, c.out))
		if got := k.Encrypt(b); got != out {
			t.Errorf("by %s Encrypt of %x is %x; want %x", c.key, b, got, out)
		}
		if got := k.Decrypt(out); got != b {
			t.Errorf("by %s Decrypt of %x is %x; want %x", c.key, out, got, b)
		}
	}
}

// TestP101ManyKeys: each bit of a key, and drawn keys, by one block each.
func TestP101ManyKeys(t *testing.T) {
	r := rand.New(rand.NewPCG(101, 1))
	for _, key := range keys() {
		hold(t, expand(t, key), other(t, key), drawnBlock(r))
	}
}

// TestP101ManyBlocks: each byte at each place alone, and drawn blocks, by a key of each size.
func TestP101ManyBlocks(t *testing.T) {
	r := rand.New(rand.NewPCG(101, 2))
	for _, n := range sizes {
		key := drawn(r, n)
		k, c := expand(t, key), other(t, key)
		for i := range 16 {
			for v := range 256 {
				var b [16]byte
				b[i] = byte(v)
				hold(t, k, c, b)
			}
		}
		hold(t, k, c, [16]byte(bytes.Repeat([]byte{255}, 16)))
		for range 1000 {
			hold(t, k, c, drawnBlock(r))
		}
	}
}

// TestP101BlockIsKey: the block is round key 0, so that the first xor leaves bytes 0 alone.
func TestP101BlockIsKey(t *testing.T) {
	for _, key := range keys() {
		hold(t, expand(t, key), other(t, key), [16]byte(key[:16]))
	}
}

// TestP101Chain: what came out goes in again, a thousand times, and all the way back.
func TestP101Chain(t *testing.T) {
	r := rand.New(rand.NewPCG(101, 3))
	for _, n := range sizes {
		key := drawn(r, n)
		k, c, b := expand(t, key), other(t, key), drawnBlock(r)
		first, want := b, b
		for range 1000 {
			b = k.Encrypt(b)
			c.Encrypt(want[:], want[:])
		}
		if b != want {
			t.Errorf("%x a thousand times by %x is %x; want %x", first, key, b, want)
		}
		for range 1000 {
			b = k.Decrypt(b)
		}
		if b != first {
			t.Errorf("%x a thousand times by %x and back is %x", first, key, b)
		}
	}
}

// TestP2KeyBytesAreApart: a key's bytes and the room behind them stay, and to change them later changes no Key.
func TestP2KeyBytesAreApart(t *testing.T) {
	r := rand.New(rand.NewPCG(2, 1))
	for _, n := range sizes {
		room := drawn(r, 100)
		was, b := slices.Clone(room), drawnBlock(r)
		k := expand(t, room[:n])
		if !bytes.Equal(room, was) {
			t.Errorf("%d bytes that were handed in: another list", n)
		}
		out, w := k.Encrypt(b), k.Words()
		for i := range room {
			room[i] ^= 0x5a
		}
		if k.Encrypt(b) != out || k.Decrypt(out) != b || !slices.Equal(k.Words(), w) {
			t.Errorf("a key of %d bytes hangs on them later", n)
		}
	}
}

// TestP2WordsAreApart: what is done with the words that were told shows neither in the key nor in those told another time.
func TestP2WordsAreApart(t *testing.T) {
	r := rand.New(rand.NewPCG(2, 2))
	for _, n := range sizes {
		key, b := drawn(r, n), drawnBlock(r)
		k := expand(t, key)
		out, one, two := k.Encrypt(b), k.Words(), k.Words()
		for i := range one {
			one[i] = [4]byte{1, 2, 3, 4}
		}
		_ = append(one, [4]byte{5, 6, 7, 8})
		if !slices.Equal(two, words(key)) || !slices.Equal(k.Words(), words(key)) || k.Encrypt(b) != out {
			t.Errorf("a key of %d bytes hangs on words that it told", n)
		}
	}
}

// TestP2NothingIsKept: a key stays as it was, whatever it and others are asked in between, and so does its copy.
func TestP2NothingIsKept(t *testing.T) {
	r := rand.New(rand.NewPCG(2, 3))
	var all []aes.Key
	var blocks, outs, backs [][16]byte
	for i := range 30 {
		k, b := expand(t, drawn(r, sizes[i%3])), drawnBlock(r)
		all, blocks = append(all, k), append(blocks, b)
		outs, backs = append(outs, k.Encrypt(b)), append(backs, k.Decrypt(b))
	}
	copies := slices.Clone(all)
	for i := range all {
		i = len(all) - 1 - i
		for _, k := range []aes.Key{all[i], copies[i]} {
			if k.Decrypt(blocks[i]) != backs[i] || k.Encrypt(blocks[i]) != outs[i] || k.Encrypt(blocks[i]) != outs[i] {
				t.Errorf("key %d, asked again: another block", i)
			}
		}
		if all[i] != copies[i] {
			t.Errorf("key %d became another one", i)
		}
	}
}

// TestP3NothingBesideErrArg: behind a key that was refused the next one is as if that had not been.
func TestP3NothingBesideErrArg(t *testing.T) {
	r := rand.New(rand.NewPCG(3, 1))
	for _, n := range sizes {
		key := drawn(r, n)
		k := expand(t, key)
		if _, e := aes.Expand(drawn(r, n+1)); e != api.ErrArg {
			t.Errorf("%d bytes: %d", n+1, e)
		}
		if k != expand(t, key) {
			t.Errorf("a key of %d bytes, ahead of a wrong one and behind it: not the same", n)
		}
	}
}
