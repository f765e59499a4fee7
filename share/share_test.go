package share_test

import (
	"crypto/hmac"
	"crypto/sha256"
	"encoding/binary"
	"math"
	"math/big"
	"math/rand/v2"
	"slices"
	"testing"

	"sealring/api"
	"sealring/share"
)

// The numbers of the document, worked out by its own words and not by the project's packages.
var (
	one     = big.NewInt(1)
	modulus = plus(power2(252), decimal("27742317777372353535851937790883648493"))
	full    = less(power2(256), one)
)

func power2(n uint) *big.Int { return new(big.Int).Lsh(one, n) }

func decimal(text string) *big.Int {
	v, _ := new(big.Int).SetString(text, 10)
	return v
}

func plus(a, b *big.Int) *big.Int { return new(big.Int).Add(a, b) }

func less(a, b *big.Int) *big.Int { return new(big.Int).Sub(a, b) }

// product modulo L.
func product(a, b *big.Int) *big.Int {
	v := new(big.Int).Mul(a, b)
	return v.Mod(v, modulus)
}

func numOf(v *big.Int) api.Num {
	var a api.Num
	for i := range a {
		a[i] = new(big.Int).Rsh(v, uint(64*i)).Uint64()
	}
	return a
}

func valueOf(a api.Num) *big.Int {
	v := new(big.Int)
	for i := range a {
		v.Or(v, new(big.Int).Lsh(new(big.Int).SetUint64(a[i]), uint(64*i)))
	}
	return v
}

// streamOf a seed: its first n bytes, as P80 tells them.
func streamOf(seed []byte, n int) []byte {
	var out []byte
	for i := uint64(0); len(out) < n; i++ {
		h := hmac.New(sha256.New, seed)
		h.Write(binary.BigEndian.AppendUint64(nil, i))
		out = h.Sum(out)
	}
	return out[:n]
}

// drawnOf a seed: the first count numbers below L that P82 makes of its bytes, 253 bits at a time; and how many were too great.
func drawnOf(seed []byte, count int) ([]*big.Int, int) {
	var out []*big.Int
	tooGreat := 0
	for b := streamOf(seed, 32*200); len(out) < count; b = b[32:] {
		word := slices.Clone(b[:32])
		slices.Reverse(word)
		v := new(big.Int).SetBytes(word)
		if v.Mod(v, power2(253)); v.Cmp(modulus) < 0 {
			out = append(out, v)
		} else {
			tooGreat++
		}
	}
	return out, tooGreat
}

// shareOf a secret at x, as P190 tells it: each number times x taken so often, added up.
func shareOf(secret *big.Int, c []*big.Int, x int64) *big.Int {
	sum := new(big.Int).Set(secret)
	for i, v := range c {
		taken := new(big.Int).Exp(big.NewInt(x), big.NewInt(int64(i+1)), nil)
		sum.Add(sum, new(big.Int).Mul(v, taken))
	}
	return sum.Mod(sum, modulus)
}

// splitOf all, as P190 tells it.
func splitOf(secret *big.Int, k, n int, seed []byte) []api.Share {
	c, _ := drawnOf(seed, k-1)
	var out []api.Share
	for x := 1; x <= n; x++ {
		out = append(out, api.Share{X: x, Y: numOf(shareOf(secret, c, int64(x)))})
	}
	return out
}

// solved: the coefficients of the one polynomial of l, by taking rows off each other.
func solved(l []api.Share) []*big.Int {
	n := len(l)
	rows := make([][]*big.Int, n)
	for i, s := range l {
		for j := range n {
			v := new(big.Int).Exp(big.NewInt(int64(s.X)), big.NewInt(int64(j)), modulus)
			rows[i] = append(rows[i], v)
		}
		rows[i] = append(rows[i], valueOf(s.Y))
	}
	for i := range n {
		for rows[i][i].Sign() == 0 {
			rows = append(append(rows[:i:i], rows[i+1:]...), rows[i])
		}
		inverse := new(big.Int).ModInverse(rows[i][i], modulus)
		for j := range rows[i] {
			rows[i][j] = product(rows[i][j], inverse)
		}
		for other := range n {
			if other == i {
				continue
			}
			often := new(big.Int).Set(rows[other][i])
			for j := range rows[other] {
				v := less(rows[other][j], product(often, rows[i][j]))
				rows[other][j] = v.Mod(v, modulus)
			}
		}
	}
	var out []*big.Int
	for _, row := range rows {
		out = append(out, row[n])
	}
	return out
}

// atOf l and x, as P191 tells it.
func atOf(l []api.Share, x int) api.Num {
	c := solved(l)
	return numOf(shareOf(c[0], c[1:], int64(x)))
}

// below L, each of them, with the words' edges.
func below() []*big.Int {
	out := []*big.Int{new(big.Int), one, big.NewInt(2), less(modulus, one), less(modulus, big.NewInt(2))}
	out = append(out, power2(252), less(power2(252), one), plus(power2(252), one), new(big.Int).Rsh(modulus, 1))
	for i := uint(0); i < 252; i += 21 {
		out = append(out, power2(i))
	}
	for _, i := range []uint{63, 64, 127, 128, 191, 192} {
		out = append(out, power2(i), less(power2(i), one), less(modulus, power2(i)))
	}
	return out
}

// notBelow L, each of them; some only in the last word, some only in the first.
func notBelow() []*big.Int {
	out := []*big.Int{modulus, plus(modulus, one), power2(253), power2(254), power2(255), full, new(big.Int).Lsh(modulus, 1), new(big.Int).Lsh(modulus, 3)}
	for _, i := range []uint{1, 63, 64, 65, 125, 127, 128, 191, 192, 251} {
		out = append(out, plus(modulus, power2(i)))
	}
	return out
}

func drawnBelow(r *rand.Rand) *big.Int {
	v := new(big.Int)
	for range 5 {
		v.Lsh(v, 64)
		v.Or(v, new(big.Int).SetUint64(r.Uint64()))
	}
	return v.Mod(v, modulus)
}

func drawnBytes(r *rand.Rand, n int) []byte {
	b := make([]byte, n)
	for i := range b {
		b[i] = byte(r.Uint32())
	}
	return b
}

// drawnShares: count of them, no two at one X, in any order.
func drawnShares(r *rand.Rand, count int) []api.Share {
	var l []api.Share
	for _, x := range r.Perm(255)[:count] {
		l = append(l, api.Share{X: x + 1, Y: numOf(drawnBelow(r))})
	}
	return l
}

func wantSplit(t *testing.T, secret *big.Int, k, n int, seed []byte) []api.Share {
	t.Helper()
	l, e := share.Split(numOf(secret), k, n, seed)
	if e != api.OK || !slices.Equal(l, splitOf(secret, k, n, seed)) {
		t.Errorf("%x for %d of %d by %x: %v, %d; want %v", secret, k, n, seed, l, e, splitOf(secret, k, n, seed))
	}
	return l
}

func wantAt(t *testing.T, l []api.Share, x int, want api.Num) {
	t.Helper()
	if y, e := share.At(l, x); y != want || e != api.OK {
		t.Errorf("at %d of %v: %v, %d; want %v", x, l, y, e, want)
	}
}

func refusesSplit(t *testing.T, secret *big.Int, k, n int, seed []byte) {
	t.Helper()
	if l, e := share.Split(numOf(secret), k, n, seed); len(l) > 0 || e != api.ErrArg {
		t.Errorf("%x for %d of %d: %v, %d", secret, k, n, l, e)
	}
}

func refusesAt(t *testing.T, l []api.Share, x int, want api.Errno) {
	t.Helper()
	if y, e := share.At(l, x); y != (api.Num{}) || e != want {
		t.Errorf("at %d of %v: %v, %d; want %d", x, l, y, e, want)
	}
}

func hexNum(text string) api.Num {
	v, _ := new(big.Int).SetString(text, 16)
	return numOf(v)
}

// TestP190Example: worked out apart from this project.
func TestP190Example(t *testing.T) {
	secret := hexNum("0123456789abcdef0123456789abcdef0123456789abcdef0123456789abcdef")
	want := []api.Share{
		{X: 1, Y: hexNum("0dfff49e32f78b5dbcb0b536f6ff0c827cbf459b819b883ff9c941afe7fc8036")},
		{X: 2, Y: hexNum("019a03d6713468dcb91deaa66170b8bc7e63fa4dfd4159d1d7dd2f26e50b79df")},
		{X: 3, Y: hexNum("0bf173104462666bf66ae5b5c900d29d44ae511ae5841927a396371b97ba36b1")},
		{X: 4, Y: hexNum("0d06424bac81840b7497a6652daf5a24a5e05644f4748c94accf9359461d0ed2")},
	}
	if l, e := share.Split(secret, 3, 4, []byte("a seed")); e != api.OK || !slices.Equal(l, want) {
		t.Errorf("%x, %d; want %x", l, e, want)
	}
	wantAt(t, want[1:], 0, secret)
}

// TestP191Example: worked out apart from this project.
func TestP191Example(t *testing.T) {
	l := []api.Share{{X: 1, Y: api.Num{7}}, {X: 3, Y: api.Num{9}}, {X: 255}}
	wantAt(t, l, 0, hexNum("04afa8757d43abea1d5f50eafa8757d440db82d9126e2c6334a5c801225a92b8"))
	wantAt(t, l, 200, hexNum("0fe6154f30aa798553cc2a9e6154f30abc5580915039eef5623dc0db2b0ee8e7"))
	wantAt(t, l, 255, api.Num{})
	wantAt(t, l[:2], 0, api.Num{6})
	wantAt(t, l[:2], 2, api.Num{8})
	wantAt(t, l[:1], 99, api.Num{7})
}

// TestP190EveryCount: each k from 1 to n, each n.
func TestP190EveryCount(t *testing.T) {
	r := rand.New(rand.NewPCG(190, 1))
	for n := 1; n <= api.MaxShares; n++ {
		for k := 1; k <= n; k++ {
			wantSplit(t, drawnBelow(r), k, n, drawnBytes(r, r.IntN(100)))
		}
	}
}

// TestP190OneEnough: then each share is the secret, of any seed.
func TestP190OneEnough(t *testing.T) {
	for _, secret := range below() {
		for _, n := range []int{1, 2, 20} {
			for _, s := range wantSplit(t, secret, 1, n, []byte("seed")) {
				if s.Y != numOf(secret) {
					t.Errorf("the share at %d of %x is %v", s.X, secret, s.Y)
				}
			}
		}
	}
}

func TestP190Secrets(t *testing.T) {
	r := rand.New(rand.NewPCG(190, 2))
	for _, secret := range below() {
		for _, k := range []int{2, 3, 20} {
			wantSplit(t, secret, k, 20, drawnBytes(r, 32))
		}
	}
}

func TestP190SecretsNotBelow(t *testing.T) {
	for _, secret := range notBelow() {
		refusesSplit(t, secret, 1, 1, nil)
		refusesSplit(t, secret, 2, 3, []byte("seed"))
		refusesSplit(t, secret, 20, 20, []byte("seed"))
		refusesSplit(t, secret, 0, 0, nil)
	}
	wantSplit(t, less(modulus, one), 1, 1, nil)
	wantSplit(t, less(modulus, one), 2, 3, []byte("seed"))
}

// TestP190Counts: which k and n are taken, and which not.
func TestP190Counts(t *testing.T) {
	for n := -3; n < 30; n++ {
		for k := -3; k < 30; k++ {
			if k >= 1 && k <= n && n <= 20 {
				wantSplit(t, big.NewInt(77), k, n, []byte("seed"))
			} else {
				refusesSplit(t, big.NewInt(77), k, n, []byte("seed"))
			}
		}
	}
	ends := []int{math.MinInt, math.MinInt + 1, math.MinInt32, -256, 256, 257, 1<<32 + 2, math.MaxInt32, math.MaxInt - 1, math.MaxInt}
	for _, end := range ends {
		for _, other := range append(ends, 0, 1, 2, 20, 21) {
			refusesSplit(t, one, end, other, nil)
			refusesSplit(t, one, other, end, nil)
		}
	}
}

// TestP190Seeds: seeds of each length, where a block of the digests ends among them, and those of which numbers are too great.
func TestP190Seeds(t *testing.T) {
	r := rand.New(rand.NewPCG(190, 3))
	none := 0
	for n := range 200 {
		seed := drawnBytes(r, n)
		wantSplit(t, drawnBelow(r), 20, 20, seed)
		if _, tooGreat := drawnOf(seed, 19); tooGreat == 0 {
			none++
		}
	}
	if none > 10 {
		t.Error("too few of the seeds have numbers that are too great:", none)
	}
	wantSplit(t, one, 5, 5, nil)
	wantSplit(t, one, 5, 5, []byte{})
	wantSplit(t, one, 5, 5, drawnBytes(r, 10000))
}

// TestP190InOrder: the numbers come into the shares in the order in which they are drawn, and no more of them than k asks for.
func TestP190InOrder(t *testing.T) {
	seed := []byte("in order")
	for k := 1; k <= 20; k++ {
		l, e := share.Split(api.Num{3}, k, 20, seed)
		if e != api.OK || len(l) != 20 {
			t.Fatal(len(l), e)
		}
		got := solved(l)
		want, _ := drawnOf(seed, k-1)
		for i := range got {
			switch {
			case i == 0 && got[i].Cmp(big.NewInt(3)) != 0:
				t.Errorf("of %d, the secret is %x", k, got[i])
			case i > 0 && i < k && got[i].Cmp(want[i-1]) != 0:
				t.Errorf("of %d, number %d is %x; want %x", k, i, got[i], want[i-1])
			case i >= k && got[i].Sign() != 0:
				t.Errorf("of %d, there is a number %d: %x", k, i, got[i])
			}
		}
	}
}

// TestP190NumberOfShares: how many there are changes none of them.
func TestP190NumberOfShares(t *testing.T) {
	for k := 1; k <= 20; k++ {
		all := wantSplit(t, power2(200), k, 20, []byte("number"))
		for n := k; n <= 20; n++ {
			if l := wantSplit(t, power2(200), k, n, []byte("number")); !slices.Equal(l, all[:n]) {
				t.Errorf("%d of %d: %v", k, n, l)
			}
		}
	}
}

// TestP190OtherSeed: of another seed there are other shares, each of them; of another secret, too.
func TestP190OtherSeed(t *testing.T) {
	for k := 2; k <= 20; k++ {
		l := wantSplit(t, power2(100), k, 20, []byte("seed"))
		m := wantSplit(t, power2(100), k, 20, []byte("Seed"))
		o := wantSplit(t, power2(101), k, 20, []byte("seed"))
		for i := range l {
			if l[i].Y == m[i].Y || l[i].Y == o[i].Y || m[i].Y == o[i].Y {
				t.Errorf("of %d, the shares at %d: %v, %v, %v", k, i+1, l[i], m[i], o[i])
			}
		}
	}
}

// TestP191ThereAndBack: any k of the shares, in any order, have the secret, and each share.
func TestP191ThereAndBack(t *testing.T) {
	r := rand.New(rand.NewPCG(191, 1))
	for n := 1; n <= api.MaxShares; n++ {
		for k := 1; k <= n; k++ {
			secret := drawnBelow(r)
			all := wantSplit(t, secret, k, n, drawnBytes(r, 20))
			var some []api.Share
			for _, i := range r.Perm(n)[:k] {
				some = append(some, all[i])
			}
			wantAt(t, some, 0, numOf(secret))
			for _, s := range all {
				wantAt(t, some, s.X, s.Y)
			}
		}
	}
}

// TestP191EverySome: of six, all lists of different ones that are long enough.
func TestP191EverySome(t *testing.T) {
	secret := less(modulus, big.NewInt(5))
	for k := 1; k <= 6; k++ {
		all := wantSplit(t, secret, k, 6, []byte("some"))
		for set := range 1 << 6 {
			var some []api.Share
			for i, s := range all {
				if set>>i&1 == 1 {
					some = append(some, s)
				}
			}
			if len(some) < k {
				continue
			}
			wantAt(t, some, 0, numOf(secret))
			slices.Reverse(some)
			wantAt(t, some, 0, numOf(secret))
		}
	}
}

// TestP191FewerKnowNothing: to one share too few there is for each secret the one share that makes it.
func TestP191FewerKnowNothing(t *testing.T) {
	r := rand.New(rand.NewPCG(191, 2))
	secret := drawnBelow(r)
	for k := 2; k <= 20; k++ {
		all := wantSplit(t, secret, k, 20, []byte("fewer"))
		few := all[:k-1]
		if y, e := share.At(few, 0); e != api.OK || y == numOf(secret) {
			t.Errorf("%d of %d have the secret: %v, %d", k-1, k, y, e)
		}
		for _, v := range []*big.Int{new(big.Int), one, less(modulus, one), drawnBelow(r), secret} {
			// The share at k that leads to v: what it adds to the value at 0 hangs on it in a straight line.
			with := func(y api.Num) []api.Share { return append(slices.Clone(few), api.Share{X: k, Y: y}) }
			base, steep := valueOf(atOf(with(api.Num{}), 0)), valueOf(atOf(with(api.Num{1}), 0))
			steep.Sub(steep, base).Mod(steep, modulus)
			y := product(plus(less(v, base), modulus), new(big.Int).ModInverse(steep, modulus))
			wantAt(t, with(numOf(y)), 0, numOf(v))
			if v == secret && numOf(y) != all[k-1].Y {
				t.Errorf("of %d, the share at %d that makes the secret is %x; want %v", k, k, y, all[k-1].Y)
			}
		}
	}
}

// TestP191DrawnShares: of any shares, each count of them, at any x.
func TestP191DrawnShares(t *testing.T) {
	r := rand.New(rand.NewPCG(191, 3))
	for count := 1; count <= api.MaxShares; count++ {
		for range 3 {
			l := drawnShares(r, count)
			c := solved(l)
			for _, x := range []int{0, 1, 2, 127, 128, 254, 255, r.IntN(256), r.IntN(256)} {
				wantAt(t, l, x, numOf(shareOf(c[0], c[1:], int64(x))))
			}
			for _, s := range l {
				wantAt(t, l, s.X, s.Y)
			}
		}
	}
}

// TestP191EveryPlace: each x, of a few shares with edges among them.
func TestP191EveryPlace(t *testing.T) {
	r := rand.New(rand.NewPCG(191, 4))
	for _, places := range [][]int{{1}, {255}, {1, 255}, {255, 1}, {254, 255}, {1, 2, 3}, {255, 128, 1}, {9, 3, 27, 81, 243}} {
		var l []api.Share
		for _, x := range places {
			l = append(l, api.Share{X: x, Y: numOf(drawnBelow(r))})
		}
		c := solved(l)
		for x := range 256 {
			wantAt(t, l, x, numOf(shareOf(c[0], c[1:], int64(x))))
		}
	}
}

// TestP191EveryPair: many of the two X that there may be, each X among them, with the line through both.
func TestP191EveryPair(t *testing.T) {
	y, z := big.NewInt(1000), less(modulus, big.NewInt(1000))
	for _, a := range []int{1, 2, 3, 16, 127, 128, 200, 254, 255} {
		for b := 1; b < 256; b++ {
			l := []api.Share{{X: a, Y: numOf(y)}, {X: b, Y: numOf(z)}}
			if a == b {
				refusesAt(t, l, 0, api.ErrArg)
				continue
			}
			steep := product(less(z, y), new(big.Int).ModInverse(big.NewInt(int64(b-a)), modulus))
			want := less(y, product(steep, big.NewInt(int64(a))))
			wantAt(t, l, 0, numOf(want.Mod(want, modulus)))
		}
	}
}

// TestP191Values: each edge of what a share may be, alone and among others.
func TestP191Values(t *testing.T) {
	r := rand.New(rand.NewPCG(191, 5))
	for _, v := range below() {
		alone := []api.Share{{X: 1 + r.IntN(255), Y: numOf(v)}}
		for _, x := range []int{0, 1, 200, 255} {
			wantAt(t, alone, x, numOf(v))
		}
		for _, count := range []int{2, 3, 20} {
			l := drawnShares(r, count)
			l[r.IntN(count)].Y = numOf(v)
			wantAt(t, l, 0, atOf(l, 0))
			for i := range l {
				l[i].Y = numOf(v)
			}
			// All at one height: so it is everywhere.
			wantAt(t, l, 0, numOf(v))
			wantAt(t, l, r.IntN(256), numOf(v))
		}
	}
}

// TestP191ValuesNotBelow: at each place of the list.
func TestP191ValuesNotBelow(t *testing.T) {
	r := rand.New(rand.NewPCG(191, 6))
	for _, v := range notBelow() {
		for _, count := range []int{1, 2, 3, 20} {
			for i := range count {
				l := drawnShares(r, count)
				wantAt(t, l, 0, atOf(l, 0))
				l[i].Y = numOf(v)
				refusesAt(t, l, 0, api.ErrArg)
				refusesAt(t, l, l[i].X, api.ErrArg)
			}
		}
	}
}

// TestP191Xs: which an element may have, and which not, at each place of the list.
func TestP191Xs(t *testing.T) {
	for x := -300; x < 600; x++ {
		l := []api.Share{{X: x, Y: api.Num{5}}}
		if x >= 1 && x <= 255 {
			wantAt(t, l, 0, api.Num{5})
		} else {
			refusesAt(t, l, 0, api.ErrArg)
		}
	}
	r := rand.New(rand.NewPCG(191, 7))
	for _, x := range []int{math.MinInt, math.MinInt + 1, math.MinInt32, -256, -255, -1, 0, 256, 257, 1 << 16, 1<<32 + 1, math.MaxInt32, math.MaxInt - 1, math.MaxInt} {
		for _, count := range []int{1, 2, 20} {
			for i := range count {
				l := drawnShares(r, count)
				l[i].X = x
				refusesAt(t, l, 0, api.ErrArg)
				refusesAt(t, l, x, api.ErrArg)
			}
		}
	}
}

// TestP191SameX: two of one X are refused wherever they stand, with the same Y or not.
func TestP191SameX(t *testing.T) {
	r := rand.New(rand.NewPCG(191, 8))
	for _, count := range []int{2, 3, 20} {
		for i := range count {
			for j := range i {
				l := drawnShares(r, count)
				l[i].X = l[j].X
				refusesAt(t, l, 0, api.ErrArg)
				l[i].Y = l[j].Y
				refusesAt(t, l, 0, api.ErrArg)
				refusesAt(t, l, l[i].X, api.ErrArg)
			}
		}
	}
	for x := 1; x < 256; x++ {
		refusesAt(t, []api.Share{{X: x}, {X: x}}, 0, api.ErrArg)
	}
}

// TestP191Places: which x are asked for, and which not.
func TestP191Places(t *testing.T) {
	l := []api.Share{{X: 3, Y: api.Num{10}}, {X: 4, Y: api.Num{12}}}
	for x := -300; x < 600; x++ {
		if x >= 0 && x <= 255 {
			wantAt(t, l, x, api.Num{uint64(4 + 2*x)})
		} else {
			refusesAt(t, l, x, api.ErrArg)
		}
	}
	for _, x := range []int{math.MinInt, math.MinInt + 3, math.MinInt32, 1 << 16, 1 << 32, 1<<32 + 3, math.MaxInt32, math.MaxInt} {
		refusesAt(t, l, x, api.ErrArg)
	}
}

// TestP191HowMany: none, as many as may be, and more, which is told ahead of all else.
func TestP191HowMany(t *testing.T) {
	r := rand.New(rand.NewPCG(191, 9))
	for count := 1; count <= 50; count++ {
		l := drawnShares(r, count)
		if count <= 20 {
			wantAt(t, l, 0, atOf(l, 0))
			refusesAt(t, l, 256, api.ErrArg)
			continue
		}
		refusesAt(t, l, 0, api.ErrLarge)
		refusesAt(t, l, -1, api.ErrLarge)
		refusesAt(t, l, 256, api.ErrLarge)
		refusesAt(t, make([]api.Share, count), 0, api.ErrLarge)
	}
	for _, x := range []int{-1, 0, 1, 255, 256} {
		refusesAt(t, nil, x, api.ErrArg)
		refusesAt(t, []api.Share{}, x, api.ErrArg)
		refusesAt(t, make([]api.Share, 0, 30), x, api.ErrArg)
		refusesAt(t, make([]api.Share, 100000), x, api.ErrLarge)
	}
}

// TestP191OneBit: a share with one bit turned makes another secret, or is refused.
func TestP191OneBit(t *testing.T) {
	secret := big.NewInt(424242)
	l := wantSplit(t, secret, 3, 3, []byte("bit"))
	for i := range l {
		for b := range 256 {
			m := slices.Clone(l)
			m[i].Y[b/64] ^= 1 << (b % 64)
			if valueOf(m[i].Y).Cmp(modulus) >= 0 {
				refusesAt(t, m, 0, api.ErrArg)
				continue
			}
			wantAt(t, m, 0, atOf(m, 0))
			if y, _ := share.At(m, 0); y == numOf(secret) {
				t.Errorf("share %d, bit %d turned: the secret", i, b)
			}
		}
	}
}

// TestP2SplitChangesNothing: neither the seed nor what is behind it; and what is done with an answer shows in no other.
func TestP2SplitChangesNothing(t *testing.T) {
	room := []byte("the seed and what is behind it")
	was := slices.Clone(room)
	secret := power2(77)
	l := wantSplit(t, secret, 4, 6, room[:8])
	want := slices.Clone(l)
	if !slices.Equal(room, was) {
		t.Errorf("the room of the seed became %q", room)
	}
	for i := range room {
		room[i] = 0xee
	}
	if !slices.Equal(l, want) {
		t.Error("an answer changed with its seed")
	}
	for i := range l {
		l[i] = api.Share{X: -1, Y: api.Num{1, 1, 1, 1}}
	}
	again := wantSplit(t, secret, 4, 6, was[:8])
	if !slices.Equal(again, want) {
		t.Errorf("asked again: %v; want %v", again, want)
	}
	_ = append(again[:2], api.Share{X: 99})
	if third := wantSplit(t, secret, 4, 6, was[:8]); !slices.Equal(third, want) {
		t.Errorf("asked for a third time: %v; want %v", third, want)
	}
}

// TestP2AtChangesNothing: neither the list nor what is behind it; asked again it is the same.
func TestP2AtChangesNothing(t *testing.T) {
	r := rand.New(rand.NewPCG(2, 191))
	room := drawnShares(r, 20)
	was := slices.Clone(room)
	first, e := share.At(room[:5], 0)
	if e != api.OK {
		t.Fatal(e)
	}
	for _, l := range [][]api.Share{room[:1], room[3:9], room, room[:0], append(room[:5:5], room[0])} {
		share.At(l, 0)
		share.At(l, 300)
		share.At(l, firstX(l))
	}
	if !slices.Equal(room, was) {
		t.Errorf("the list became %v; was %v", room, was)
	}
	wantAt(t, room[:5], 0, first)
}

// firstX: where the first of l stands, if there is one.
func firstX(l []api.Share) int {
	if len(l) == 0 {
		return 7
	}
	return l[0].X
}

// TestP2NothingIsKept: a call between two that are the same, refused or not, leaves no trace.
func TestP2NothingIsKept(t *testing.T) {
	seed := []byte("kept")
	l := wantSplit(t, one, 3, 5, seed)
	share.Split(api.Num{9}, 20, 20, seed)
	share.Split(api.Num{9}, 21, 20, seed)
	share.Split(numOf(modulus), 2, 2, seed)
	if m := wantSplit(t, one, 3, 5, seed); !slices.Equal(l, m) {
		t.Errorf("%v; was %v", m, l)
	}
}

// TestP1AnyArguments: nothing panics, whatever comes in.
func TestP1AnyArguments(t *testing.T) {
	ints := []int{math.MinInt, -1, 0, 1, 2, 20, 21, 255, 256, math.MaxInt}
	for _, k := range ints {
		for _, n := range ints {
			for _, secret := range []*big.Int{new(big.Int), less(modulus, one), modulus, full} {
				l, e := share.Split(numOf(secret), k, n, nil)
				if ok := e == api.OK; ok != (len(l) > 0) || ok && len(l) != n {
					t.Errorf("%x for %d of %d: %v, %d", secret, k, n, l, e)
				}
				for _, x := range ints {
					if y, e := share.At(append(l, api.Share{X: n, Y: numOf(secret)}), x); e != api.OK && y != (api.Num{}) {
						t.Errorf("at %d of %v: %v, %d", x, l, y, e)
					}
				}
			}
		}
	}
}
