package wrap_test

import (
	"bytes"
	library "crypto/aes"
	"crypto/cipher"
	"encoding/binary"
	"encoding/hex"
	"math/rand/v2"
	"slices"
	"strings"
	"testing"

	"sealring/aes"
	"sealring/api"
	"sealring/wrap"
)

// sizes that the key above may have.
var sizes = []int{16, 24, 32}

// lengths that what is wrapped may have.
var lengths = []int{16, 24, 32, 40, 48, 56, 64}

// marks: the eight bytes that P120 starts from.
var marks = bytes.Repeat([]byte{166}, 8)

// unhex: the bytes of a text of base 16, which may have gaps.
func unhex(t *testing.T, s string) []byte {
	t.Helper()
	b, err := hex.DecodeString(strings.ReplaceAll(s, " ", ""))
	if err != nil {
		t.Fatal(err)
	}
	return b
}

// drawn: n bytes.
func drawn(r *rand.Rand, n int) []byte {
	b := make([]byte, n)
	for i := range b {
		b[i] = byte(r.Uint32())
	}
	return b
}

// both: a key, of the project and of Go's own library.
type both struct {
	k aes.Key
	c cipher.Block
}

// expand a key for both.
func expand(t *testing.T, key []byte) both {
	t.Helper()
	k, e := aes.Expand(key)
	c, err := library.NewCipher(key)
	if e != api.OK || err != nil {
		t.Fatal(len(key), e, err)
	}
	return both{k, c}
}

// drawnKeys: one of each size.
func drawnKeys(t *testing.T, r *rand.Rand) []both {
	t.Helper()
	var out []both
	for _, n := range sizes {
		out = append(out, expand(t, drawn(r, n)))
	}
	return out
}

// wrapped from any first A, with any count of eights: a queue that is turned by one eight a step, by the library's blocks.
func wrapped(c cipher.Block, a, p []byte) []byte {
	queue := slices.Clone(p)
	a = slices.Clone(a)
	for step := 1; step <= 6*len(p)/8; step++ {
		b := slices.Concat(a, queue[:8])
		c.Encrypt(b, b)
		binary.BigEndian.PutUint64(a, binary.BigEndian.Uint64(b)^uint64(step))
		queue = append(queue[8:], b[8:]...)
	}
	return append(a, queue...)
}

// unwrapped: the A and the eights that wrapped was given.
func unwrapped(c cipher.Block, w []byte) (a, p []byte) {
	a, queue := slices.Clone(w[:8]), slices.Clone(w[8:])
	for step := 6 * len(queue) / 8; step > 0; step-- {
		b := binary.BigEndian.AppendUint64(nil, binary.BigEndian.Uint64(a)^uint64(step))
		b = append(b, queue[len(queue)-8:]...)
		c.Decrypt(b, b)
		a = b[:8]
		queue = slices.Concat(b[8:], queue[:len(queue)-8])
	}
	return a, queue
}

// holdWrap of p, and that Unwrap leads back.
func holdWrap(t *testing.T, k both, p []byte) {
	t.Helper()
	want := wrapped(k.c, marks, p)
	if got, e := wrap.Wrap(k.k, p); e != api.OK || len(got) != len(p)+8 || !bytes.Equal(got, want) {
		t.Errorf("%x is wrapped to\n%x, %d; want\n%x", p, got, e, want)
	}
	if back, e := wrap.Unwrap(k.k, want); e != api.OK || !bytes.Equal(back, p) {
		t.Errorf("%x is unwrapped to\n%x, %d; want\n%x", want, back, e, p)
	}
}

// holdRefused: Unwrap tells this error, and no list beside it.
func holdRefused(t *testing.T, k both, c []byte, want api.Errno) {
	t.Helper()
	if p, e := wrap.Unwrap(k.k, c); p != nil || e != want {
		t.Errorf("%x is unwrapped to %x, %d; want %d", c, p, e, want)
	}
}

// TestP120P121Published: RFC 3394, section 4.
func TestP120P121Published(t *testing.T) {
	const (
		key = "000102030405060708090a0b0c0d0e0f101112131415161718191a1b1c1d1e1f"
		p   = "00112233445566778899aabbccddeeff000102030405060708090a0b0c0d0e0f"
	)
	for _, c := range []struct {
		key, p int
		out    string
	}{
		{16, 16, "1fa68b0a8112b447 aef34bd8fb5a7b82 9d3e862371d2cfe5"},
		{24, 16, "96778b25ae6ca435 f92b5b97c050aed2 468ab8a17ad84e5d"},
		{32, 16, "64e8c3f9ce0f5ba2 63e9777905818a2a 93c8191e7d6e8ae7"},
		{24, 24, "031d33264e15d332 68f24ec260743edc e1c6c7ddee725a93 6ba814915c6762d2"},
		{32, 24, "a8f9bc1612c68b3f f6e6f4fbe30e71e4 769c8b80a32cb895 8cd5d17d6b254da1"},
		{32, 32, "28c9f404c4b810f4 cbccb35cfb87f826 3f5786e2d80ed326 cbc7f0e71a99f43b fb988b9b7a02dd21"},
	} {
		k, p, out := expand(t, unhex(t, key)[:c.key]), unhex(t, p)[:c.p], unhex(t, c.out)
		if got, e := wrap.Wrap(k.k, p); e != api.OK || !bytes.Equal(got, out) {
			t.Errorf("%d bytes by %d: %x, %d; want %x", c.p, c.key, got, e, out)
		}
		if got, e := wrap.Unwrap(k.k, out); e != api.OK || !bytes.Equal(got, p) {
			t.Errorf("%d bytes by %d and back: %x, %d; want %x", c.p, c.key, got, e, p)
		}
	}
}

// TestP120EachLength: drawn bytes, all 0, all 255, and bytes that are themselves what A starts from.
func TestP120EachLength(t *testing.T) {
	r := rand.New(rand.NewPCG(120, 1))
	for range 5 {
		for _, k := range drawnKeys(t, r) {
			for _, n := range lengths {
				holdWrap(t, k, drawn(r, n))
				for _, b := range []byte{0, 255, 166} {
					holdWrap(t, k, bytes.Repeat([]byte{b}, n))
				}
			}
		}
	}
}

// TestP120EachByte: at each place alone.
func TestP120EachByte(t *testing.T) {
	r := rand.New(rand.NewPCG(120, 2))
	for i, k := range drawnKeys(t, r) {
		for _, n := range []int{lengths[i], 64} {
			for place := range n {
				p := make([]byte, n)
				p[place] = byte(1 + r.IntN(255))
				holdWrap(t, k, p)
			}
		}
	}
}

// TestP120EightsHaveTheirPlaces: turned round by some, they make another answer, and it leads back to them as they stood.
func TestP120EightsHaveTheirPlaces(t *testing.T) {
	r := rand.New(rand.NewPCG(120, 3))
	k := expand(t, drawn(r, 16))
	for _, n := range lengths {
		p := drawn(r, n)
		first, _ := wrap.Wrap(k.k, p)
		for i := 8; i < n; i += 8 {
			turned := slices.Concat(p[i:], p[:i])
			holdWrap(t, k, turned)
			if c, _ := wrap.Wrap(k.k, turned); bytes.Equal(c, first) {
				t.Errorf("%x and %x are wrapped to the same", p, turned)
			}
		}
	}
}

// TestP120OtherLengths: ErrArg and no list, for one eight and for nine as for what is no eights.
func TestP120OtherLengths(t *testing.T) {
	r := rand.New(rand.NewPCG(120, 4))
	for _, k := range drawnKeys(t, r) {
		if c, e := wrap.Wrap(k.k, nil); c != nil || e != api.ErrArg {
			t.Errorf("nothing is wrapped to %x, %d", c, e)
		}
		for _, n := range append(upTo(600), 1<<16, 1<<16+16, 1<<16+64, 1<<20) {
			c, e := wrap.Wrap(k.k, drawn(r, n))
			if slices.Contains(lengths, n) {
				if len(c) != n+8 || e != api.OK {
					t.Errorf("%d bytes are wrapped to %d, %d", n, len(c), e)
				}
			} else if c != nil || e != api.ErrArg {
				t.Errorf("%d bytes are wrapped to %x, %d", n, c, e)
			}
		}
	}
}

// upTo: the numbers below n.
func upTo(n int) []int {
	var out []int
	for i := range n {
		out = append(out, i)
	}
	return out
}

// TestP120Again: what was wrapped is wrapped once more, while it has room, and is unwrapped as often.
func TestP120Again(t *testing.T) {
	r := rand.New(rand.NewPCG(120, 5))
	for _, k := range drawnKeys(t, r) {
		p := drawn(r, 16)
		c := p
		for len(c) <= 64 {
			next, e := wrap.Wrap(k.k, c)
			if e != api.OK {
				t.Fatalf("%d bytes: %d", len(c), e)
			}
			holdWrap(t, k, c)
			c = next
		}
		if next, e := wrap.Wrap(k.k, c); next != nil || e != api.ErrArg {
			t.Errorf("%d bytes are wrapped to %x, %d", len(c), next, e)
		}
		for len(c) > 16 {
			back, e := wrap.Unwrap(k.k, c)
			if e != api.OK {
				t.Fatalf("%d bytes back: %d", len(c), e)
			}
			c = back
		}
		if !bytes.Equal(c, p) {
			t.Errorf("%x came back as %x", p, c)
		}
	}
}

// TestP121OtherLengths: ErrArg, also where what was wrapped in P120's way would be of one eight or of nine.
func TestP121OtherLengths(t *testing.T) {
	r := rand.New(rand.NewPCG(121, 1))
	for _, k := range drawnKeys(t, r) {
		holdRefused(t, k, nil, api.ErrArg)
		for _, n := range append(upTo(600), 1<<16, 1<<16+24, 1<<16+72, 1<<20) {
			want := api.ErrArg
			if slices.Contains(lengths, n-8) {
				want = api.ErrSum
			}
			holdRefused(t, k, drawn(r, n), want)
			holdRefused(t, k, make([]byte, n), want)
		}
		for _, n := range []int{8, 72, 80, 88, 128} {
			holdRefused(t, k, wrapped(k.c, marks, drawn(r, n)), api.ErrArg)
		}
		holdRefused(t, k, marks, api.ErrArg)
	}
}

// TestP121Cuts: of what was wrapped no beginning, no end and nothing longer is unwrapped.
func TestP121Cuts(t *testing.T) {
	r := rand.New(rand.NewPCG(121, 2))
	for _, k := range drawnKeys(t, r) {
		for _, n := range lengths {
			c := wrapped(k.c, marks, drawn(r, n))
			for _, other := range [][]byte{
				c[:n], c[8:], c[:n+7], c[1:], c[:n-8],
				append(slices.Clone(c), 0), append(slices.Clone(c), drawn(r, 8)...), append(drawn(r, 8), c...),
				slices.Concat(marks, c), slices.Concat(c, marks),
			} {
				want := api.ErrArg
				if slices.Contains(lengths, len(other)-8) {
					want = api.ErrSum
				}
				holdRefused(t, k, other, want)
			}
		}
	}
}

// TestP121EachBit: of what was wrapped none may be another one.
func TestP121EachBit(t *testing.T) {
	r := rand.New(rand.NewPCG(121, 3))
	for i, k := range drawnKeys(t, r) {
		for _, n := range []int{lengths[i], lengths[i+3]} {
			c := wrapped(k.c, marks, drawn(r, n))
			for bit := range 8 * len(c) {
				c[bit/8] ^= 1 << (bit % 8)
				holdRefused(t, k, c, api.ErrSum)
				c[bit/8] ^= 1 << (bit % 8)
			}
		}
	}
}

// TestP121OtherStarts: what was wrapped from another A is Wrap of nothing, however near that A is.
func TestP121OtherStarts(t *testing.T) {
	r := rand.New(rand.NewPCG(121, 4))
	for _, k := range drawnKeys(t, r) {
		for bit := range 64 {
			a := slices.Clone(marks)
			a[bit/8] ^= 1 << (bit % 8)
			holdRefused(t, k, wrapped(k.c, a, drawn(r, lengths[bit%7])), api.ErrSum)
		}
		for _, n := range lengths {
			for _, a := range [][]byte{
				make([]byte, 8),
				bytes.Repeat([]byte{255}, 8),
				bytes.Repeat([]byte{0x6a}, 8),
				{166, 166, 166, 166, 0, 0, 0, 0},
				{0, 0, 0, 0, 166, 166, 166, 166},
				{166, 0x59, 166, 0x59, 166, 0x59, 166, 0x59},
				{166, 0x59, 0x59, 166, 0, 0, 0, byte(n)},
				drawn(r, 8),
			} {
				holdRefused(t, k, wrapped(k.c, a, drawn(r, n)), api.ErrSum)
			}
		}
	}
}

// TestP121TwoWrongBytesAreWrong: of A, by the same bits, so that they would hide each other in one sum.
func TestP121TwoWrongBytesAreWrong(t *testing.T) {
	r := rand.New(rand.NewPCG(121, 5))
	k := expand(t, drawn(r, 32))
	for i := range 8 {
		for j := range i {
			a := slices.Clone(marks)
			a[i] ^= 0x35
			a[j] ^= 0x35
			holdRefused(t, k, wrapped(k.c, a, drawn(r, 24)), api.ErrSum)
		}
	}
}

// TestP121AnotherKey: by it nothing is unwrapped, be it of another size or one bit away.
func TestP121AnotherKey(t *testing.T) {
	r := rand.New(rand.NewPCG(121, 6))
	for _, size := range sizes {
		key := drawn(r, size)
		c := wrapped(expand(t, key).c, marks, drawn(r, 32))
		for _, other := range drawnKeys(t, r) {
			holdRefused(t, other, c, api.ErrSum)
		}
		for bit := range 8 * size {
			near := slices.Clone(key)
			near[bit/8] ^= 1 << (bit % 8)
			holdRefused(t, expand(t, near), c, api.ErrSum)
		}
	}
}

// TestP121AnyBytes: drawn ones, some of them wrapped; the answer is what the way back by the library's blocks tells.
func TestP121AnyBytes(t *testing.T) {
	r := rand.New(rand.NewPCG(121, 7))
	told := map[api.Errno]int{}
	for range 100 {
		for _, k := range drawnKeys(t, r) {
			c := drawn(r, 8+lengths[r.IntN(7)])
			if r.IntN(2) == 0 {
				c = wrapped(k.c, marks, c[8:])
			}
			a, p := unwrapped(k.c, c)
			want := api.OK
			if !bytes.Equal(a, marks) {
				p, want = nil, api.ErrSum
			}
			got, e := wrap.Unwrap(k.k, c)
			told[e]++
			if e != want || !bytes.Equal(got, p) {
				t.Errorf("%x is unwrapped to\n%x, %d; want\n%x, %d", c, got, e, p, want)
			}
		}
	}
	if told[api.OK] == 0 || told[api.ErrSum] == 0 {
		t.Errorf("not each answer was met: %v", told)
	}
}

// TestP1ZeroKey: a key that is not to be used gets an answer all the same.
func TestP1ZeroKey(t *testing.T) {
	for n := range 100 {
		c, e := wrap.Wrap(aes.Key{}, make([]byte, n))
		if slices.Contains(lengths, n) != (e == api.OK) || e == api.OK && len(c) != n+8 {
			t.Errorf("%d bytes are wrapped to %d, %d", n, len(c), e)
		}
		wrap.Unwrap(aes.Key{}, make([]byte, n))
	}
}

// roomy: a copy of b with room behind it that a call might write to.
func roomy(b []byte) []byte {
	room := bytes.Repeat([]byte{0xa5}, len(b)+64)
	copy(room, b)
	return room[:len(b)]
}

// asItWas: does b, of roomy, still hold want and the room behind it?
func asItWas(b, want []byte) bool {
	all := b[:cap(b)]
	return bytes.Equal(all[:len(b)], want) && bytes.Equal(all[len(b):], bytes.Repeat([]byte{0xa5}, 64))
}

// fill b, and the room behind it, so that what shares memory with it shows.
func fill(b []byte) {
	all := b[:cap(b)]
	for i := range all {
		all[i] = 0xee
	}
}

// TestP2WhatIsHandedInIsApart: it stays, and what is done with it or with an answer later shows in neither.
func TestP2WhatIsHandedInIsApart(t *testing.T) {
	r := rand.New(rand.NewPCG(2, 1))
	k := expand(t, drawn(r, 16))
	for _, n := range lengths {
		p := drawn(r, n)
		c := wrapped(k.c, marks, p)
		for _, way := range []struct {
			name      string
			call      func(aes.Key, []byte) ([]byte, api.Errno)
			was, want []byte
		}{
			{"Wrap", wrap.Wrap, p, c},
			{"Unwrap", wrap.Unwrap, c, p},
		} {
			b := roomy(way.was)
			one, _ := way.call(k.k, b)
			two, _ := way.call(k.k, b)
			if !asItWas(b, way.was) {
				t.Errorf("%s of %d bytes changed them or the room behind them", way.name, len(b))
			}
			fill(b)
			if !bytes.Equal(one, way.want) || !bytes.Equal(two, way.want) {
				t.Errorf("%s of %d bytes: a later change of these shows", way.name, len(b))
			}
			b = roomy(way.was)
			three, _ := way.call(k.k, b)
			fill(one)
			fill(three)
			if !bytes.Equal(two, way.want) || !asItWas(b, way.was) {
				t.Errorf("%s of %d bytes: what is done with an answer shows elsewhere", way.name, len(b))
			}
			if again, e := way.call(k.k, way.was); e != api.OK || !bytes.Equal(again, way.want) {
				t.Errorf("%s of %d bytes, asked again: %x, %d; want %x", way.name, len(b), again, e, way.want)
			}
		}
	}
}

// TestP2WrongOnesStay: what is refused is not changed, and what comes behind it is as if it had not been.
func TestP2WrongOnesStay(t *testing.T) {
	r := rand.New(rand.NewPCG(2, 2))
	k, p := expand(t, drawn(r, 32)), drawn(r, 24)
	for _, n := range []int{0, 8, 16, 23, 24, 25, 40, 72, 80} {
		was := drawn(r, n)
		b := roomy(was)
		if q, e := wrap.Unwrap(k.k, b); q != nil || e == api.OK || !asItWas(b, was) {
			t.Errorf("%x is unwrapped to %x, %d, or became %x", was, q, e, b[:cap(b)])
		}
		holdWrap(t, k, p)
		if !slices.Contains(lengths, n) {
			if c, e := wrap.Wrap(k.k, b); c != nil || e != api.ErrArg || !asItWas(b, was) {
				t.Errorf("%x is wrapped to %x, %d, or became %x", was, c, e, b[:cap(b)])
			}
			holdWrap(t, k, p)
		}
	}
}
