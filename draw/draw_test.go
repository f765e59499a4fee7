package draw_test

import (
	"bytes"
	"crypto/hmac"
	"crypto/sha256"
	"encoding/binary"
	"encoding/hex"
	"math"
	"math/big"
	"math/rand/v2"
	"slices"
	"testing"

	"sealring/api"
	"sealring/draw"
)

const most = math.MaxUint64

// body of n bytes that tells one place from the next.
func body(n int) []byte {
	b := make([]byte, n)
	for i := range b {
		b[i] = byte(i*7 + i>>8*3 + 1)
	}
	return b
}

// want: n bytes from a place on, worked out byte by byte without the project's packages.
func want(seed []byte, place uint64, n int) []byte {
	var out, mark []byte
	for i := range uint64(n) {
		at := place + i // as Place is, modulo 2^64
		if i == 0 || at%32 == 0 {
			m := hmac.New(sha256.New, seed)
			m.Write(binary.BigEndian.AppendUint64(nil, at/32))
			mark = m.Sum(nil)
		}
		out = append(out, mark[at%32])
	}
	return out
}

// wantBelow: P82's answer from a place on, and where the source is then.
func wantBelow(seed []byte, place uint64, m api.Num) (api.Num, uint64) {
	limit := big.NewInt(0)
	for i := range m {
		limit.Or(limit, new(big.Int).Lsh(new(big.Int).SetUint64(m[i]), uint(64*i)))
	}
	n := new(big.Int).Sub(limit, big.NewInt(1)).BitLen()
	for {
		b := want(seed, place, 32)
		place += 32
		slices.Reverse(b)
		x := new(big.Int).SetBytes(b)
		x.Mod(x, new(big.Int).Lsh(big.NewInt(1), uint(n)))
		if x.Cmp(limit) >= 0 {
			continue
		}
		var a api.Num
		words := new(big.Int).SetUint64(most)
		for i := range a {
			a[i] = new(big.Int).And(new(big.Int).Rsh(x, uint(64*i)), words).Uint64()
		}
		return a, place
	}
}

// drawn: n bytes of s, which has to give them.
func drawn(t *testing.T, s *draw.Source, n int) []byte {
	t.Helper()
	before := s.Place()
	b, e := s.Bytes(n)
	if e != api.OK || len(b) != n || s.Place() != before+uint64(n) {
		t.Fatalf("Bytes(%d) at %d: %d bytes, %d, then at %d", n, before, len(b), e, s.Place())
	}
	return b
}

// checkBelow: what s tells below m, and its place behind that, are what they have to be.
func checkBelow(t *testing.T, s *draw.Source, seed []byte, m api.Num) {
	t.Helper()
	before := s.Place()
	x, place := wantBelow(seed, before, m)
	if got, e := s.Below(m); got != x || e != api.OK || s.Place() != place {
		t.Errorf("Below(%x) at %d = %x, %d, then at %d; want %x, at %d", m, before, got, e, s.Place(), x, place)
	}
}

// places: next to each power of 2, round the edges of marks, and at the end of the count.
func places() []uint64 {
	var out []uint64
	for k := range 64 {
		for d := uint64(0); d < 70; d += 3 {
			out = append(out, 1<<k+d, 1<<k-d)
		}
	}
	for d := range uint64(70) {
		out = append(out, d, most-d)
	}
	return out
}

func TestP80Examples(t *testing.T) {
	for _, c := range []struct {
		seed  []byte
		place uint64
		want  string
	}{
		{[]byte("seed"), 0, "07d111e857fcf9f835fb3d65161e2d310f540e641e6081ebb8e8513f3ec8e5f04257fc4ff5407fec"},
		{nil, 0, "f375180aba92888401f1919be4a8715a62763b65c1c10e1d0858e81d4d6f9fd2"},
		{[]byte("seed"), 8188, "52abc373607d3fcb"},
		{[]byte("seed"), most - 3, "49d8870a07d111e8"},
		{bytes.Repeat([]byte{0xaa}, 131), 31, "9ca833"},
		{[]byte("x"), 0x0123456789abcdef, "0c180b823eb9421eb9c4283e0208a8f3"},
	} {
		got := drawn(t, draw.At(c.seed, c.place), len(c.want)/2)
		if hex.EncodeToString(got) != c.want {
			t.Errorf("of %q at %d: %x; want %s", c.seed, c.place, got, c.want)
		}
	}
}

// TestP80Seeds goes past 64 bytes, where a mark takes its key's digest instead.
func TestP80Seeds(t *testing.T) {
	for n := range 200 {
		seed := body(n)
		if got := drawn(t, draw.New(seed), 100); !bytes.Equal(got, want(seed, 0, 100)) {
			t.Errorf("a seed of %d bytes: %x", n, got)
		}
		if got := drawn(t, draw.At(seed, 77), 100); !bytes.Equal(got, want(seed, 77, 100)) {
			t.Errorf("a seed of %d bytes, at 77: %x", n, got)
		}
	}
	if !bytes.Equal(drawn(t, draw.New(nil), 40), drawn(t, draw.New([]byte{}), 40)) {
		t.Error("no seed and an empty one are two")
	}
}

func TestP80NewIsAtNone(t *testing.T) {
	for n := range 70 {
		s := draw.New(body(n))
		if s == nil || s.Place() != 0 || *s != *draw.At(body(n), 0) {
			t.Fatalf("New of %d bytes is not at 0", n)
		}
	}
}

func TestP80EveryPlace(t *testing.T) {
	seed := []byte("place")
	for _, p := range places() {
		s := draw.At(seed, p)
		if s.Place() != p {
			t.Fatalf("At(%d) is at %d", p, s.Place())
		}
		if got := drawn(t, s, 67); !bytes.Equal(got, want(seed, p, 67)) {
			t.Errorf("at %d: %x; want %x", p, got, want(seed, p, 67))
		}
	}
}

// TestP80WrapsRound: behind the last byte of the count the first one comes again.
func TestP80WrapsRound(t *testing.T) {
	seed := []byte("round")
	first := drawn(t, draw.New(seed), 200)
	for back := 1; back <= 100; back++ {
		s := draw.At(seed, -uint64(back))
		drawn(t, s, back)
		if s.Place() != 0 {
			t.Fatalf("%d bytes from %d on lead to %d", back, -uint64(back), s.Place())
		}
		if got := drawn(t, s, 200); !bytes.Equal(got, first) {
			t.Errorf("behind the last byte: %x; want %x", got, first)
		}
		s = draw.At(seed, -uint64(back))
		if got := drawn(t, s, 200); !bytes.Equal(got[back:], first[:200-back]) || s.Place() != 200-uint64(back) {
			t.Errorf("across the last byte, from %d before it: %x", back, got)
		}
	}
}

// TestP80ThePlaceAlone: however a source came to a place, it goes on in one way.
func TestP80ThePlaceAlone(t *testing.T) {
	seed := []byte("alone")
	for n := range 150 {
		byBytes, bySkip, byOnes := draw.New(seed), draw.New(seed), draw.New(seed)
		drawn(t, byBytes, n)
		if e := bySkip.Skip(n); e != api.OK {
			t.Fatal(n, e)
		}
		for range n {
			drawn(t, byOnes, 1)
		}
		at := draw.At(seed, uint64(n))
		if *byBytes != *at || *bySkip != *at || *byOnes != *at {
			t.Errorf("a source that came to %d is another than one that began there", n)
		}
		for _, s := range []*draw.Source{byBytes, bySkip, byOnes, at} {
			if got := drawn(t, s, 50); !bytes.Equal(got, want(seed, uint64(n), 50)) {
				t.Errorf("from %d on: %x", n, got)
			}
		}
	}
}

// TestP80AskingChangesNothing: Place draws nothing.
func TestP80AskingChangesNothing(t *testing.T) {
	s := draw.At([]byte("ask"), 30)
	before := *s
	for range 3 {
		if s.Place() != 30 || *s != before {
			t.Fatal("Place moved the source to", s.Place())
		}
	}
}

func TestP81EveryLength(t *testing.T) {
	seed := []byte("length")
	all := want(seed, 0, 4096+40)
	for n := range 4097 {
		start := n % 40
		if got := drawn(t, draw.At(seed, uint64(start)), n); !bytes.Equal(got, all[start:start+n]) {
			t.Errorf("%d bytes from %d on are others", n, start)
		}
	}
}

func TestP81Parts(t *testing.T) {
	seed := []byte("parts")
	all := want(seed, 0, 300)
	for a := range 100 {
		for b := range 100 {
			s := draw.New(seed)
			one, two, three := drawn(t, s, a), drawn(t, s, b), drawn(t, s, 5)
			if got := slices.Concat(one, two, three); !bytes.Equal(got, all[:a+b+5]) {
				t.Errorf("%d, %d and 5 bytes: %x", a, b, got)
			}
		}
	}
}

func TestP81SkipTellsNone(t *testing.T) {
	seed := []byte("skip")
	for _, p := range []uint64{0, 1, 31, 32, 33, 1 << 40, most - 5000, most - 32, most} {
		for _, n := range []int{0, 1, 2, 31, 32, 33, 64, 4095, 4096} {
			s := draw.At(seed, p)
			if e := s.Skip(n); e != api.OK || s.Place() != p+uint64(n) {
				t.Errorf("Skip(%d) at %d: %d, then at %d", n, p, e, s.Place())
			}
			if got := drawn(t, s, 40); !bytes.Equal(got, want(seed, p+uint64(n), 40)) {
				t.Errorf("behind Skip(%d) at %d: %x", n, p, got)
			}
		}
	}
}

// TestP81Mixed: drawn, skipped and wrong ones in any order.
func TestP81Mixed(t *testing.T) {
	r := rand.New(rand.NewPCG(81, 81))
	for range 200 {
		seed, place := body(r.IntN(100)), r.Uint64()>>r.IntN(64)
		s := draw.At(seed, place)
		for range 30 {
			n := r.IntN(1 << r.IntN(12))
			switch r.IntN(4) {
			case 0:
				if e := s.Skip(n); e != api.OK {
					t.Fatal(n, e)
				}
				place += uint64(n)
			case 1:
				s.Bytes(-1 - n)
				s.Skip(4097 + n)
			default:
				if got := drawn(t, s, n); !bytes.Equal(got, want(seed, place, n)) {
					t.Fatalf("%d bytes at %d are others", n, place)
				}
				place += uint64(n)
			}
			if s.Place() != place {
				t.Fatalf("at %d; want %d", s.Place(), place)
			}
		}
	}
}

func TestP81Wrong(t *testing.T) {
	wrong := []struct {
		n int
		e api.Errno
	}{
		{-1, api.ErrArg}, {-2, api.ErrArg}, {-32, api.ErrArg}, {-4096, api.ErrArg}, {-4097, api.ErrArg},
		{math.MinInt32, api.ErrArg}, {math.MinInt, api.ErrArg}, {math.MinInt + 1, api.ErrArg},
		{4097, api.ErrLarge}, {4098, api.ErrLarge}, {8192, api.ErrLarge}, {65536, api.ErrLarge},
		{math.MaxInt32, api.ErrLarge}, {math.MaxInt - 1, api.ErrLarge}, {math.MaxInt, api.ErrLarge},
	}
	for _, p := range []uint64{0, 5, 31, 32, most} {
		s := draw.At([]byte("wrong"), p)
		before := *s
		for _, c := range wrong {
			if b, e := s.Bytes(c.n); b != nil || e != c.e {
				t.Errorf("Bytes(%d) = %d bytes, %d; want %d", c.n, len(b), e, c.e)
			}
			if e := s.Skip(c.n); e != c.e {
				t.Errorf("Skip(%d) = %d; want %d", c.n, e, c.e)
			}
			if *s != before {
				t.Fatalf("a wrong %d moved the source from %d to %d", c.n, p, s.Place())
			}
		}
		if got := drawn(t, s, 40); !bytes.Equal(got, want([]byte("wrong"), p, 40)) {
			t.Errorf("behind wrong ones: %x", got)
		}
	}
}

func TestP82Nought(t *testing.T) {
	for _, p := range []uint64{0, 7, most} {
		s := draw.At([]byte("nought"), p)
		before := *s
		if x, e := s.Below(api.Num{}); x != (api.Num{}) || e != api.ErrArg || *s != before {
			t.Errorf("Below(0) at %d = %x, %d, then at %d", p, x, e, s.Place())
		}
	}
}

// TestP82One: 0 is all there is below 1, and yet 32 bytes are drawn.
func TestP82One(t *testing.T) {
	s := draw.New([]byte("one"))
	for i := range uint64(50) {
		if x, e := s.Below(api.Num{1}); x != (api.Num{}) || e != api.OK || s.Place() != 32*(i+1) {
			t.Fatalf("Below(1) = %x, %d, then at %d", x, e, s.Place())
		}
	}
}

// powersOf2, and their neighbours: where n becomes another, and where half of all tries are too great.
func powersOf2() []api.Num {
	out := []api.Num{{most, most, most, most}, {most - 1, most, most, most}}
	for k := range 256 {
		var p, below, above api.Num
		p[k/64] = 1 << (k % 64)
		above = p
		above[0]++
		for i := range k / 64 {
			below[i] = most
		}
		below[k/64] = p[k/64] - 1
		out = append(out, p, above)
		if k > 0 {
			out = append(out, below)
		}
	}
	return out
}

func TestP82PowersOf2(t *testing.T) {
	seed := []byte("powers")
	s := draw.New(seed)
	for _, m := range powersOf2() {
		for range 4 {
			checkBelow(t, s, seed, m)
		}
	}
}

// TestP82TriesAgain: more than one try is taken, and the first that fits.
func TestP82TriesAgain(t *testing.T) {
	seed := []byte("again")
	m := api.Num{1, 0, 0, 1 << 63}
	s := draw.New(seed)
	var tries [20]int
	for range 300 {
		before := s.Place()
		checkBelow(t, s, seed, m)
		tries[min((s.Place()-before)/32, 19)]++
	}
	if tries[0] != 0 || tries[1] == 0 || tries[2] == 0 || tries[3] == 0 || tries[4] == 0 {
		t.Error("tries that were taken, by how many:", tries)
	}
}

func TestP82EverySmall(t *testing.T) {
	seed := []byte("small")
	s := draw.New(seed)
	for m := uint64(1); m < 600; m++ {
		checkBelow(t, s, seed, api.Num{m})
	}
	for m := uint64(1); m < 20; m++ {
		seen := make([]int, m)
		for range 60 * m {
			x, e := s.Below(api.Num{m})
			if e != api.OK || x[0] >= m || x != (api.Num{x[0]}) {
				t.Fatalf("Below(%d) = %x, %d", m, x, e)
			}
			seen[x[0]]++
		}
		if slices.Contains(seen, 0) {
			t.Errorf("below %d: %v", m, seen)
		}
	}
}

func TestP82Drawn(t *testing.T) {
	r := rand.New(rand.NewPCG(82, 82))
	for range 3000 {
		m := api.Num{r.Uint64() | 1, r.Uint64(), r.Uint64(), r.Uint64()}
		words := r.IntN(4)
		clear(m[words+1:])
		m[words] >>= r.IntN(63)
		m[0] |= 1
		seed := body(r.IntN(100))
		checkBelow(t, draw.At(seed, r.Uint64()), seed, m)
	}
}

// TestP82AnyPlace: the 32 bytes may lie in two marks, and on both sides of the end of the count.
func TestP82AnyPlace(t *testing.T) {
	seed := []byte("any")
	for d := range uint64(70) {
		for _, m := range []api.Num{{1}, {3}, {most, most}, {1, 0, 0, 1 << 63}, {most, most, most, most}} {
			checkBelow(t, draw.At(seed, d), seed, m)
			checkBelow(t, draw.At(seed, -d), seed, m)
		}
	}
}

// TestP82InBetween: bytes and numbers are drawn of one row.
func TestP82InBetween(t *testing.T) {
	seed := []byte("between")
	s := draw.New(seed)
	for n := range 100 {
		before := s.Place()
		if got := drawn(t, s, n); !bytes.Equal(got, want(seed, before, n)) {
			t.Errorf("%d bytes at %d: %x", n, before, got)
		}
		checkBelow(t, s, seed, api.Num{0, uint64(n) + 1})
		if e := s.Skip(n % 7); e != api.OK {
			t.Fatal(e)
		}
	}
}

// roomy: a copy of b with room behind it that a call might write to.
func roomy(b []byte) []byte {
	room := bytes.Repeat([]byte{0xa5}, len(b)+100)
	copy(room, b)
	return room[:len(b)]
}

// fill b, and the room behind it, so that what shares memory with it shows.
func fill(b []byte) {
	all := b[:cap(b)]
	for i := range all {
		all[i] = 0xee
	}
}

func TestP2SeedsAreNotChangedOrKept(t *testing.T) {
	for n := range 150 {
		seed := roomy(body(n))
		s, at := draw.New(seed), draw.At(seed, 40)
		drawn(t, s, 40)
		checkBelow(t, at, body(n), api.Num{5})
		all := seed[:cap(seed)]
		if !bytes.Equal(seed, body(n)) || !bytes.Equal(all[n:], bytes.Repeat([]byte{0xa5}, 100)) {
			t.Errorf("a seed of %d bytes became %x", n, all)
		}
		fill(seed)
		if got := drawn(t, s, 40); !bytes.Equal(got, want(body(n), 40, 40)) {
			t.Errorf("a later change of a seed of %d bytes shows: %x", n, got)
		}
	}
}

// TestP2AnswersAreNewMemory: what is done with some bytes shows in no others, and not in the source.
func TestP2AnswersAreNewMemory(t *testing.T) {
	seed := []byte("memory")
	for n := 1; n < 100; n++ {
		s := draw.New(seed)
		one, two := drawn(t, s, n), drawn(t, s, n)
		fill(one)
		if !bytes.Equal(two, want(seed, uint64(n), n)) {
			t.Errorf("two lists of %d bytes share memory", n)
		}
		fill(two)
		if three := drawn(t, s, n); !bytes.Equal(three, want(seed, uint64(2*n), n)) {
			t.Errorf("a change of %d bytes that were told shows in the next ones", n)
		}
	}
}

// TestP2SourcesAreApart: of two sources of one seed, and of a copy, each goes its own way.
func TestP2SourcesAreApart(t *testing.T) {
	seed := []byte("apart")
	for n := range 100 {
		one, two := draw.New(seed), draw.New(seed)
		drawn(t, one, n)
		three := *one
		drawn(t, one, 9)
		if two.Place() != 0 || !bytes.Equal(drawn(t, two, 40), want(seed, 0, 40)) {
			t.Errorf("%d bytes of one source were drawn of another", n)
		}
		if three.Place() != uint64(n) || !bytes.Equal(drawn(t, &three, 40), want(seed, uint64(n), 40)) {
			t.Errorf("what was drawn of a source at %d was drawn of its copy", n)
		}
		if !bytes.Equal(drawn(t, one, 40), want(seed, uint64(n)+9, 40)) {
			t.Errorf("what was drawn of a copy was drawn of the source at %d", n)
		}
	}
}
