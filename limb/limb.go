// Package limb: numbers of 256 bits: see ../shared/doc/01-limb.md.
package limb

import (
	"math/bits"

	"sealring/api"
)

const (
	wordBits = 64
	numBits  = 4 * wordBits
)

// Add two.
func Add(a, b api.Num) (api.Num, uint64) {
	var sum api.Num
	var carry uint64
	for i := range sum {
		sum[i], carry = bits.Add64(a[i], b[i], carry)
	}
	return sum, carry
}

// Sub: take b off.
func Sub(a, b api.Num) (api.Num, uint64) {
	var diff api.Num
	var borrow uint64
	for i := range diff {
		diff[i], borrow = bits.Sub64(a[i], b[i], borrow)
	}
	return diff, borrow
}

// Mul: the product.
func Mul(a, b api.Num) api.Wide {
	var w api.Wide
	for i := range a {
		var carry uint64
		for j := range b {
			w[i+j], carry = mulAdd(a[i], b[j], w[i+j], carry)
		}
		// No earlier row reached this word, so it is still 0.
		w[i+len(b)] = carry
	}
	return w
}

// mulAdd: x * y + s + t, the low word first. With m = 2^64 - 1 it is at most m*m + 2m = 2^128 - 1, so the high word can't wrap.
func mulAdd(x, y, s, t uint64) (uint64, uint64) {
	high, low := bits.Mul64(x, y)
	low, carry := bits.Add64(low, s, 0)
	high += carry
	low, carry = bits.Add64(low, t, 0)
	return low, high + carry
}

// Cmp: which is greater?
func Cmp(a, b api.Num) int {
	for i := len(a) - 1; i >= 0; i-- {
		if a[i] < b[i] {
			return -1
		}
		if a[i] > b[i] {
			return 1
		}
	}
	return 0
}

// Bit i.
func Bit(a api.Num, i int) uint64 {
	if i < 0 || i >= numBits {
		return 0
	}
	return a[i/wordBits] >> uint(i%wordBits) & 1
}

// Len: bits that are needed.
func Len(a api.Num) int {
	for i := len(a) - 1; i >= 0; i-- {
		if a[i] != 0 {
			return i*wordBits + bits.Len64(a[i])
		}
	}
	return 0
}

// Shift to the left, or right.
func Shift(a api.Num, n int) api.Num {
	// The bound comes first: the least int has no -n.
	if n <= -numBits || n >= numBits {
		return api.Num{}
	}
	if n < 0 {
		return shiftRight(a, -n)
	}
	return shiftLeft(a, n)
}

// shiftLeft by n from 0 to 255.
func shiftLeft(a api.Num, n int) api.Num {
	words, rest := n/wordBits, uint(n%wordBits)
	var r api.Num
	for i := words; i < len(r); i++ {
		r[i] = a[i-words] << rest
		if i > words {
			// With rest 0 this shifts by a whole word, which leaves 0.
			r[i] |= a[i-words-1] >> (wordBits - rest)
		}
	}
	return r
}

// shiftRight by n from 0 to 255.
func shiftRight(a api.Num, n int) api.Num {
	words, rest := n/wordBits, uint(n%wordBits)
	var r api.Num
	for i := words; i < len(a); i++ {
		r[i-words] = a[i] >> rest
		if i+1 < len(a) {
			// With rest 0 this shifts by a whole word, which leaves 0.
			r[i-words] |= a[i+1] << (wordBits - rest)
		}
	}
	return r
}

// Pick one of two. By a mask, not by a branch: c may be a bit of a secret.
func Pick(c uint64, a, b api.Num) api.Num {
	mask := -(c & 1)
	var r api.Num
	for i := range r {
		r[i] = a[i] ^ mask&(a[i]^b[i])
	}
	return r
}

// Bytes of a number, the least first.
func Bytes(a api.Num) [32]byte {
	var b [32]byte
	for i := range b {
		b[i] = byte(a[i/8] >> uint(i%8*8))
	}
	return b
}

// Of bytes.
func Of(b [32]byte) api.Num {
	var a api.Num
	for i := range b {
		a[i/8] |= uint64(b[i]) << uint(i%8*8)
	}
	return a
}

// Wide of two halves.
func Wide(lo, hi api.Num) api.Wide {
	return api.Wide{lo[0], lo[1], lo[2], lo[3], hi[0], hi[1], hi[2], hi[3]}
}

// Low half.
func Low(w api.Wide) api.Num { return api.Num{w[0], w[1], w[2], w[3]} }

// High half.
func High(w api.Wide) api.Num { return api.Num{w[4], w[5], w[6], w[7]} }
