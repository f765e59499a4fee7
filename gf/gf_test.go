package gf_test

import (
	"encoding/hex"
	"math/bits"
	"math/rand/v2"
	"testing"

	"sealring/gf"
)

// table: Sub of each byte from 0 to 255, as it was published (FIPS 197, figure 7).
const table = "637c777bf26b6fc53001672bfed7ab76" + "ca82c97dfa5947f0add4a2af9ca472c0" +
	"b7fd9326363ff7cc34a5e5f171d83115" + "04c723c31896059a071280e2eb27b275" +
	"09832c1a1b6e5aa0523bd6b329e32f84" + "53d100ed20fcb15b6acbbe394a4c58cf" +
	"d0efaafb434d338545f9027f503c9fa8" + "51a3408f929d38f5bcb6da2110fff3d2" +
	"cd0c13ec5f974417c4a77e3d645d1973" + "60814fdc222a908846eeb814de5e0bdb" +
	"e0323a0a4906245cc2d3ac629195e479" + "e7c8376d8dd54ea96c56f4ea657aae08" +
	"ba78252e1ca6b4c6e8dd741f4bbd8b8a" + "703eb5664803f60e613557b986c11d9e" +
	"e1f8981169d98e949b1e87e9ce5528df" + "8ca1890dbfe6426841992d0fb054bb16"

// all bytes, in order.
func all() []byte {
	out := make([]byte, 256)
	for i := range out {
		out[i] = byte(i)
	}
	return out
}

// product of a and b as polynomials, and what is left of it by long division.
func product(a, b byte) byte {
	wide := 0
	for i := range 8 {
		for j := range 8 {
			wide ^= int(a>>i&1) * int(b>>j&1) << (i + j)
		}
	}
	for i := 14; i >= 8; i-- {
		if wide>>i&1 == 1 {
			wide ^= (1<<8 | 1<<4 | 1<<3 | 1<<1 | 1) << (i - 8)
		}
	}
	return byte(wide)
}

// power: a taken n times, for n of any size, as each byte but 0 comes round behind 255.
func power(a byte, n uint) byte {
	if a == 0 && n > 0 {
		return 0
	}
	p := byte(1)
	for range n % 255 {
		p = product(p, a)
	}
	return p
}

// inverse of a, sought among all bytes.
func inverse(a byte) byte {
	for _, b := range all() {
		if product(a, b) == 1 {
			return b
		}
	}
	return 0
}

// weighted: element i of c as P92 tells it, by the four numbers of Mix or of Unmix.
func weighted(c [4]byte, i int, by [4]byte) byte {
	return product(by[0], c[i]) ^ product(by[1], c[(i+1)%4]) ^ product(by[2], c[(i+2)%4]) ^ product(by[3], c[(i+3)%4])
}

func TestP90Examples(t *testing.T) {
	for _, c := range [][3]byte{
		{87, 131, 193}, {0x57, 0x13, 0xfe}, {0x57, 0x02, 0xae}, {0x57, 0x04, 0x47}, {0x57, 0x08, 0x8e}, {0x57, 0x10, 0x07},
		{0x80, 0x02, 0x1b}, {0x80, 0x80, 0x9a}, {0xff, 0xff, 0x13}, {0x53, 0xca, 1}, {0, 0, 0}, {0, 255, 0}, {1, 255, 255},
	} {
		if got := gf.Mul(c[0], c[1]); got != c[2] {
			t.Errorf("%x times %x is %x; want %x", c[0], c[1], got, c[2])
		}
		if got := gf.Mul(c[1], c[0]); got != c[2] {
			t.Errorf("%x times %x is %x; want %x", c[1], c[0], got, c[2])
		}
	}
}

func TestP90EveryProduct(t *testing.T) {
	for _, a := range all() {
		for _, b := range all() {
			if got, want := gf.Mul(a, b), product(a, b); got != want {
				t.Errorf("%x times %x is %x; want %x", a, b, got, want)
			}
		}
	}
}

// TestP90Field: what makes products those of a field, beside the sums by xor.
func TestP90Field(t *testing.T) {
	some := []byte{0, 1, 2, 3, 0x1b, 0x57, 0x7f, 0x80, 0x83, 0xca, 0xfe, 0xff}
	for _, a := range all() {
		if gf.Mul(a, 0) != 0 || gf.Mul(0, a) != 0 || gf.Mul(a, 1) != a || gf.Mul(1, a) != a {
			t.Errorf("%x by 0 or by 1", a)
		}
		for _, b := range all() {
			if gf.Mul(a, b) == 0 && a != 0 && b != 0 {
				t.Errorf("%x times %x is 0", a, b)
			}
			for _, c := range some {
				if gf.Mul(a, b^c) != gf.Mul(a, b)^gf.Mul(a, c) {
					t.Errorf("%x times the sum of %x and %x", a, b, c)
				}
				if gf.Mul(gf.Mul(a, b), c) != gf.Mul(a, gf.Mul(b, c)) {
					t.Errorf("%x times %x times %x", a, b, c)
				}
			}
		}
	}
}

// TestP90SmallPowers: taken one by one, twice round and more.
func TestP90SmallPowers(t *testing.T) {
	for _, a := range all() {
		want := byte(1)
		for n := range uint(600) {
			if got := gf.Pow(a, n); got != want {
				t.Errorf("%x taken %d times is %x; want %x", a, n, got, want)
			}
			want = product(want, a)
		}
	}
}

func TestP90NoneTaken(t *testing.T) {
	for _, a := range all() {
		if gf.Pow(a, 0) != 1 || gf.Pow(a, 1) != a {
			t.Errorf("%x taken 0 times is %x, once %x", a, gf.Pow(a, 0), gf.Pow(a, 1))
		}
	}
}

// TestP90GreatPowers: n next to each power of 2, and to the greatest n.
func TestP90GreatPowers(t *testing.T) {
	for k := range bits.UintSize {
		for d := range uint(4) {
			for _, n := range []uint{1<<k + d, 1<<k - d, ^uint(0) - d, ^uint(0)>>k - d} {
				for _, a := range all() {
					if got, want := gf.Pow(a, n), power(a, n); got != want {
						t.Errorf("%x taken %d times is %x; want %x", a, n, got, want)
					}
				}
			}
		}
	}
}

func TestP90DrawnPowers(t *testing.T) {
	r := rand.New(rand.NewPCG(90, 90))
	for range 20000 {
		a, n := byte(r.Uint32()), uint(r.Uint64())>>r.IntN(bits.UintSize)
		if got, want := gf.Pow(a, n), power(a, n); got != want {
			t.Errorf("%x taken %d times is %x; want %x", a, n, got, want)
		}
	}
}

func TestP90EveryInverse(t *testing.T) {
	for _, a := range all() {
		b := gf.Inv(a)
		if want := inverse(a); b != want {
			t.Errorf("the inverse of %x is %x; want %x", a, b, want)
		}
		if a != 0 && gf.Mul(a, b) != 1 {
			t.Errorf("%x times its inverse %x is %x", a, b, gf.Mul(a, b))
		}
		if gf.Inv(b) != a {
			t.Errorf("the inverse of %x, of that the inverse: %x", a, gf.Inv(b))
		}
	}
	if gf.Inv(0) != 0 || gf.Inv(1) != 1 || gf.Inv(0x53) != 0xca || gf.Inv(2) != 0x8d {
		t.Error("the inverses of 0, 1, 53 and 2:", gf.Inv(0), gf.Inv(1), gf.Inv(0x53), gf.Inv(2))
	}
}

func TestP91Published(t *testing.T) {
	want, err := hex.DecodeString(table)
	if err != nil || len(want) != 256 {
		t.Fatal(len(want), err)
	}
	for _, a := range all() {
		if got := gf.Sub(a); got != want[a] {
			t.Errorf("Sub of %x is %x; want %x", a, got, want[a])
		}
		if got := gf.Unsub(want[a]); got != a {
			t.Errorf("Unsub of %x is %x; want %x", want[a], got, a)
		}
	}
}

// TestP91BitByBit: as the promise tells it.
func TestP91BitByBit(t *testing.T) {
	for _, a := range all() {
		b, got := inverse(a), gf.Sub(a)
		for i := range 8 {
			want := byte(99) >> i & 1
			for _, k := range []int{0, 4, 5, 6, 7} {
				want ^= b >> ((i + k) % 8) & 1
			}
			if got>>i&1 != want {
				t.Errorf("bit %d of Sub of %x is %d; want %d", i, a, got>>i&1, want)
			}
		}
	}
}

func TestP91ThereAndBack(t *testing.T) {
	var seen [256]int
	for _, a := range all() {
		if gf.Unsub(gf.Sub(a)) != a || gf.Sub(gf.Unsub(a)) != a {
			t.Errorf("%x there and back is %x, back and there %x", a, gf.Unsub(gf.Sub(a)), gf.Sub(gf.Unsub(a)))
		}
		seen[gf.Sub(a)]++
	}
	for b, n := range seen {
		if n != 1 {
			t.Errorf("%d bytes have Sub %x", n, b)
		}
	}
	if gf.Sub(0) != 99 || gf.Unsub(99) != 0 || gf.Unsub(0) != 0x52 {
		t.Error("of 0:", gf.Sub(0), gf.Unsub(99), gf.Unsub(0))
	}
}

func TestP92Examples(t *testing.T) {
	for _, c := range []struct{ c, mixed [4]byte }{
		{[4]byte{0xdb, 0x13, 0x53, 0x45}, [4]byte{0x8e, 0x4d, 0xa1, 0xbc}},
		{[4]byte{0xf2, 0x0a, 0x22, 0x5c}, [4]byte{0x9f, 0xdc, 0x58, 0x9d}},
		{[4]byte{0x2d, 0x26, 0x31, 0x4c}, [4]byte{0x4d, 0x7e, 0xbd, 0xf8}},
		{[4]byte{0xd4, 0xbf, 0x5d, 0x30}, [4]byte{0x04, 0x66, 0x81, 0xe5}},
		{[4]byte{0xd4, 0xd4, 0xd4, 0xd5}, [4]byte{0xd5, 0xd5, 0xd7, 0xd6}},
		{[4]byte{1, 0, 0, 0}, [4]byte{2, 1, 1, 3}},
		{[4]byte{14, 9, 13, 11}, [4]byte{1, 0, 0, 0}},
		{[4]byte{}, [4]byte{}},
		{[4]byte{1, 1, 1, 1}, [4]byte{1, 1, 1, 1}},
		{[4]byte{255, 255, 255, 255}, [4]byte{255, 255, 255, 255}},
	} {
		if got := gf.Mix(c.c); got != c.mixed {
			t.Errorf("Mix of %x is %x; want %x", c.c, got, c.mixed)
		}
		if got := gf.Unmix(c.mixed); got != c.c {
			t.Errorf("Unmix of %x is %x; want %x", c.mixed, got, c.c)
		}
	}
}

// columns: each byte at each place alone and beside 255s, and drawn ones.
func columns() [][4]byte {
	var out [][4]byte
	for i := range 4 {
		for _, a := range all() {
			var alone [4]byte
			alone[i] = a
			beside := [4]byte{255, 255, 255, 255}
			beside[i] = a
			out = append(out, alone, beside, [4]byte{a, a, a, a})
		}
	}
	r := rand.New(rand.NewPCG(92, 92))
	for range 50000 {
		x := r.Uint32()
		out = append(out, [4]byte{byte(x), byte(x >> 8), byte(x >> 16), byte(x >> 24)})
	}
	return out
}

func TestP92EachElement(t *testing.T) {
	for _, c := range columns() {
		mixed, unmixed := gf.Mix(c), gf.Unmix(c)
		for i := range 4 {
			if want := weighted(c, i, [4]byte{2, 3, 1, 1}); mixed[i] != want {
				t.Errorf("element %d of Mix of %x is %x; want %x", i, c, mixed[i], want)
			}
			if want := weighted(c, i, [4]byte{14, 11, 13, 9}); unmixed[i] != want {
				t.Errorf("element %d of Unmix of %x is %x; want %x", i, c, unmixed[i], want)
			}
		}
	}
}

func TestP92ThereAndBack(t *testing.T) {
	for _, c := range columns() {
		if there, back := gf.Unmix(gf.Mix(c)), gf.Mix(gf.Unmix(c)); there != c || back != c {
			t.Errorf("%x there and back is %x, back and there %x", c, there, back)
		}
	}
}

// TestP2ColumnsAreApart: a column that is handed in stays, and what is done with an answer shows in no other.
func TestP2ColumnsAreApart(t *testing.T) {
	for _, f := range []func([4]byte) [4]byte{gf.Mix, gf.Unmix} {
		c := [4]byte{0xdb, 0x13, 0x53, 0x45}
		one := f(c)
		want := one
		if c != [4]byte{0xdb, 0x13, 0x53, 0x45} {
			t.Errorf("what was handed in became %x", c)
		}
		for i := range one {
			one[i] = 0xee
		}
		if again := f(c); again != want {
			t.Errorf("asked again: %x; want %x", again, want)
		}
	}
}

// TestP2AskedAgain: of the same byte the same is told, whatever was asked in between.
func TestP2AskedAgain(t *testing.T) {
	var first [256][4]byte
	told := func(a byte) [4]byte { return [4]byte{gf.Inv(a), gf.Sub(a), gf.Unsub(a), gf.Pow(a, 1000)} }
	for _, a := range all() {
		first[a] = told(a)
	}
	for i := range all() {
		a := byte(255 - i)
		if again := told(a); again != first[a] {
			t.Errorf("of %x: %x, and then %x", a, first[a], again)
		}
	}
}
