package tree_test

import (
	"bytes"
	"crypto/sha256"
	"encoding/hex"
	"math"
	"math/rand/v2"
	"reflect"
	"slices"
	"testing"

	"sealring/api"
	"sealring/tree"
)

// body of n bytes that tells one place from the next.
func body(n int) []byte {
	b := make([]byte, n)
	for i := range b {
		b[i] = byte(i*7 + i>>8*3 + 1)
	}
	return b
}

// drawn bytes, of a seed that is fixed.
func drawn(r *rand.Rand, n int) []byte {
	b := make([]byte, n)
	for i := range b {
		b[i] = byte(r.Uint32())
	}
	return b
}

// drawnDigest: any 32 bytes.
func drawnDigest(r *rand.Rand) [32]byte { return [32]byte(drawn(r, 32)) }

// leaves: n of them, each another one.
func leaves(n int) [][]byte {
	l := make([][]byte, n)
	for i := range l {
		l[i] = []byte{byte(i), byte(i >> 8), byte(i >> 16)}
	}
	return l
}

// unhex: a digest written out in base 16.
func unhex(t *testing.T, s string) [32]byte {
	t.Helper()
	b, err := hex.DecodeString(s)
	if err != nil || len(b) != 32 {
		t.Fatal(s, err)
	}
	return [32]byte(b)
}

// wantLeaf is P70's Leaf, worked out without the project's packages.
func wantLeaf(p []byte) [32]byte { return sha256.Sum256(append([]byte{0}, p...)) }

// wantNode is P70's Node, worked out likewise.
func wantNode(a, b [32]byte) [32]byte {
	return sha256.Sum256(slices.Concat([]byte{1}, a[:], b[:]))
}

// wantCut is P70's k, found one by one.
func wantCut(n int) int {
	k := 1
	for 2*k < n {
		k *= 2
	}
	return k
}

// wantRoot is P70's Root as the promise tells it.
func wantRoot(l [][]byte) [32]byte {
	if len(l) == 0 {
		return sha256.Sum256(nil)
	}
	if len(l) == 1 {
		return wantLeaf(l[0])
	}
	k := wantCut(len(l))
	return wantNode(wantRoot(l[:k]), wantRoot(l[k:]))
}

// wantRootByRows is the same by another way: row above row, two and two, the odd one at the end taken up as it is.
func wantRootByRows(l [][]byte) [32]byte {
	if len(l) == 0 {
		return sha256.Sum256(nil)
	}
	var row [][32]byte
	for _, p := range l {
		row = append(row, wantLeaf(p))
	}
	for len(row) > 1 {
		var above [][32]byte
		for ; len(row) > 1; row = row[2:] {
			above = append(above, wantNode(row[0], row[1]))
		}
		row = append(above, row...)
	}
	return row[0]
}

// wantPath is P71's Path as the promise tells it, of i that is a place of l.
func wantPath(l [][]byte, i int) [][32]byte {
	if len(l) == 1 {
		return nil
	}
	k := wantCut(len(l))
	if i < k {
		return append(wantPath(l[:k], i), wantRoot(l[k:]))
	}
	return append(wantPath(l[k:], i-k), wantRoot(l[:k]))
}

// sides: for each element of i's path, from the leaf on, is it on the right?
func sides(n, i int) []bool {
	if n == 1 {
		return nil
	}
	k := wantCut(n)
	if i < k {
		return append(sides(k, i), true)
	}
	return append(sides(n-k, i-k), false)
}

// rootBy: where the path leads from leaf p, by the sides.
func rootBy(right []bool, p []byte, path [][32]byte) [32]byte {
	d := wantLeaf(p)
	for j, x := range path {
		if right[j] {
			d = wantNode(d, x)
		} else {
			d = wantNode(x, d)
		}
	}
	return d
}

// wantPeaks is P72's Peaks: the greatest power of 2 that is not more than what is left, again and again.
func wantPeaks(l [][]byte) [][32]byte {
	var peaks [][32]byte
	for len(l) > 0 {
		size := 1
		for 2*size <= len(l) {
			size *= 2
		}
		peaks = append(peaks, wantRoot(l[:size]))
		l = l[size:]
	}
	return peaks
}

// logOf leaves, each added.
func logOf(t *testing.T, l [][]byte) *tree.Log {
	t.Helper()
	var g tree.Log
	for i, p := range l {
		if e := g.Add(p); e != api.OK {
			t.Fatalf("Add of leaf %d: %d", i, e)
		}
	}
	return &g
}

// nearPowers: how many leaves there are at, and one beside, each power of 2 up to MaxLeaves.
func nearPowers() []int {
	var counts []int
	for size := 512; size <= api.MaxLeaves; size *= 2 {
		counts = append(counts, size-1, size, size+1)
	}
	return append(counts, 700, 12345, 43690, 65535-255)
}

func TestP70Examples(t *testing.T) {
	l := [][]byte{
		{}, {0x00}, {0x10}, {0x20, 0x21}, {0x30, 0x31}, {0x40, 0x41, 0x42, 0x43},
		{0x50, 0x51, 0x52, 0x53, 0x54, 0x55, 0x56, 0x57},
		{0x60, 0x61, 0x62, 0x63, 0x64, 0x65, 0x66, 0x67, 0x68, 0x69, 0x6a, 0x6b, 0x6c, 0x6d, 0x6e, 0x6f},
	}
	for n, want := range []string{
		"e3b0c44298fc1c149afbf4c8996fb92427ae41e4649b934ca495991b7852b855",
		"6e340b9cffb37a989ca544e6bb780a2c78901d3fb33738768511a30617afa01d",
		"fac54203e7cc696cf0dfcb42c92a1d9dbaf70ad9e621f4bd8d98662f00e3c125",
		"aeb6bcfe274b70a14fb067a5e5578264db0fa9b51af5e0ba159158f329e06e77",
		"d37ee418976dd95753c1c73862b9398fa2a2cf9b4ff0fdfe8b30cd95209614b7",
		"4e3bbb1f7b478dcfe71fb631631519a3bca12c9aefca1612bfce4c13a86264d4",
		"76e67dadbcdf1e10e1b74ddc608abd2f98dfb16fbce75277b5232a127f2087ef",
		"ddb89be403809e325750d3d263cd78929c2942b7942a34b77e122c9594a74c8c",
		"5dc9da79a70659a9ad559cb701ded9a2ab9d823aad2f4960cfe370eff4604328",
	} {
		if d := tree.Root(l[:n]); d != unhex(t, want) {
			t.Errorf("Root of %d = %x; want %s", n, d, want)
		}
	}
}

func TestP70Leaf(t *testing.T) {
	for n := range 300 {
		for _, p := range [][]byte{body(n), make([]byte, n), bytes.Repeat([]byte{1}, n)} {
			if d := tree.Leaf(p); d != wantLeaf(p) {
				t.Errorf("Leaf of %d bytes = %x; want %x", n, d, wantLeaf(p))
			}
		}
	}
	if tree.Leaf(nil) != sha256.Sum256([]byte{0}) || tree.Leaf([]byte{}) != tree.Leaf(nil) {
		t.Errorf("Leaf of nothing = %x, %x", tree.Leaf(nil), tree.Leaf([]byte{}))
	}
}

func TestP70Node(t *testing.T) {
	var zero [32]byte
	pairs := [][2][32]byte{{zero, zero}}
	// Each bit of either one alone.
	for bit := range 256 {
		one := zero
		one[bit/8] = 1 << (bit % 8)
		pairs = append(pairs, [2][32]byte{one, zero}, [2][32]byte{zero, one}, [2][32]byte{one, one})
	}
	r := rand.New(rand.NewPCG(70, 0))
	for range 300 {
		pairs = append(pairs, [2][32]byte{drawnDigest(r), drawnDigest(r)})
	}
	for _, c := range pairs {
		if d := tree.Node(c[0], c[1]); d != wantNode(c[0], c[1]) {
			t.Errorf("Node(%x, %x) = %x; want %x", c[0], c[1], d, wantNode(c[0], c[1]))
		}
	}
}

// TestP70LeafIsNoNode: a leaf of a node's bytes is another digest, whichever byte is put ahead.
func TestP70LeafIsNoNode(t *testing.T) {
	a, b := tree.Leaf([]byte("a")), tree.Leaf([]byte("b"))
	both := append(a[:], b[:]...)
	node := tree.Node(a, b)
	if node == tree.Leaf(both) || node == tree.Leaf(append([]byte{1}, both...)) || node == tree.Node(b, a) {
		t.Error("a node is a leaf, or is the same with its two turned")
	}
}

func TestP70EveryCount(t *testing.T) {
	l := leaves(600)
	for n := range len(l) {
		got := tree.Root(l[:n])
		if got != wantRoot(l[:n]) || got != wantRootByRows(l[:n]) {
			t.Errorf("Root of %d = %x; want %x", n, got, wantRoot(l[:n]))
		}
	}
}

// TestP70ManyLeaves goes past MaxLeaves, which bounds Check and a Log, not Root.
func TestP70ManyLeaves(t *testing.T) {
	l := leaves(3 * api.MaxLeaves)
	for _, n := range append(nearPowers(), 2*api.MaxLeaves-1, 2*api.MaxLeaves, 2*api.MaxLeaves+1, len(l)) {
		if got := tree.Root(l[:n]); got != wantRootByRows(l[:n]) {
			t.Errorf("Root of %d = %x; want %x", n, got, wantRootByRows(l[:n]))
		}
	}
}

func TestP70DrawnLeaves(t *testing.T) {
	r := rand.New(rand.NewPCG(70, 70))
	for range 300 {
		l := make([][]byte, r.IntN(40))
		for i := range l {
			l[i] = drawn(r, r.IntN(1<<r.IntN(9)))
		}
		if got := tree.Root(l); got != wantRoot(l) {
			t.Errorf("Root of %d = %x; want %x", len(l), got, wantRoot(l))
		}
	}
}

func TestP70Nothing(t *testing.T) {
	none := sha256.Sum256(nil)
	if tree.Root(nil) != none || tree.Root([][]byte{}) != none {
		t.Errorf("Root of no leaves = %x, %x", tree.Root(nil), tree.Root([][]byte{}))
	}
	// A leaf of no bytes is there: it is not as if it were left out.
	empty := wantLeaf(nil)
	if tree.Root([][]byte{nil}) != empty || tree.Root([][]byte{{}}) != empty {
		t.Errorf("Root of one empty leaf = %x, %x", tree.Root([][]byte{nil}), tree.Root([][]byte{{}}))
	}
	if tree.Root([][]byte{nil, {}, nil}) != wantNode(wantNode(empty, empty), empty) {
		t.Errorf("Root of three empty leaves = %x", tree.Root([][]byte{nil, {}, nil}))
	}
}

func TestP71PathExamples(t *testing.T) {
	l := leaves(7)
	leaf := func(i int) [32]byte { return wantLeaf(l[i]) }
	front := wantNode(wantNode(leaf(0), leaf(1)), wantNode(leaf(2), leaf(3)))
	back := wantNode(wantNode(leaf(4), leaf(5)), leaf(6))
	for _, c := range []struct {
		n, i int
		want [][32]byte
	}{
		{1, 0, nil},
		{2, 0, [][32]byte{leaf(1)}},
		{2, 1, [][32]byte{leaf(0)}},
		{3, 0, [][32]byte{leaf(1), leaf(2)}},
		{3, 1, [][32]byte{leaf(0), leaf(2)}},
		{3, 2, [][32]byte{wantNode(leaf(0), leaf(1))}},
		{5, 4, [][32]byte{front}},
		{7, 0, [][32]byte{leaf(1), wantNode(leaf(2), leaf(3)), back}},
		{7, 3, [][32]byte{leaf(2), wantNode(leaf(0), leaf(1)), back}},
		{7, 4, [][32]byte{leaf(5), leaf(6), front}},
		{7, 5, [][32]byte{leaf(4), leaf(6), front}},
		{7, 6, [][32]byte{wantNode(leaf(4), leaf(5)), front}},
	} {
		path, e := tree.Path(l[:c.n], c.i)
		if e != api.OK || !slices.Equal(path, c.want) {
			t.Errorf("Path of %d of %d = %x, %d; want %x", c.i, c.n, path, e, c.want)
		}
	}
}

func TestP71PathEveryPlace(t *testing.T) {
	l := leaves(70)
	for n := 1; n <= len(l); n++ {
		for i := range n {
			path, e := tree.Path(l[:n], i)
			if e != api.OK || !slices.Equal(path, wantPath(l[:n], i)) {
				t.Errorf("Path of %d of %d = %x, %d; want %x", i, n, path, e, wantPath(l[:n], i))
			}
		}
	}
}

func TestP71PathWrongPlace(t *testing.T) {
	for n := range 20 {
		for _, i := range []int{-1, -2, -n, n, n + 1, 2 * n, n + 256, n + 1<<32, math.MinInt, math.MaxInt} {
			if 0 <= i && i < n {
				continue
			}
			if path, e := tree.Path(leaves(n), i); path != nil || e != api.ErrArg {
				t.Errorf("Path of %d of %d = %x, %d; want ErrArg", i, n, path, e)
			}
		}
	}
	if path, e := tree.Path(nil, 0); path != nil || e != api.ErrArg {
		t.Errorf("Path of the first of none = %x, %d; want ErrArg", path, e)
	}
}

// TestP71PathOfMany goes past MaxLeaves, which Path does not ask about, but Check does.
func TestP71PathOfMany(t *testing.T) {
	l := leaves(api.MaxLeaves + 1)
	for _, n := range []int{511, 513, 12345, api.MaxLeaves - 1, api.MaxLeaves, api.MaxLeaves + 1} {
		root := wantRoot(l[:n])
		for _, i := range []int{0, n / 3, n / 2, n - 2, n - 1} {
			path, e := tree.Path(l[:n], i)
			if e != api.OK || !slices.Equal(path, wantPath(l[:n], i)) {
				t.Errorf("Path of %d of %d: %d elements, %d", i, n, len(path), e)
			}
			if got := tree.Check(root, n, i, l[i], path); got != (n <= api.MaxLeaves) {
				t.Errorf("Check of %d of %d = %t", i, n, got)
			}
		}
	}
}

// TestP71CheckEveryPlace holds each path up to each place of each count: it fits where it goes to the same sides, and nowhere else.
func TestP71CheckEveryPlace(t *testing.T) {
	l := leaves(18)
	for n := 1; n <= len(l); n++ {
		root := wantRoot(l[:n])
		for i := range n {
			path, own := wantPath(l[:n], i), sides(n, i)
			for m := -1; m <= len(l); m++ {
				for j := -2; j <= len(l); j++ {
					want := 0 <= j && j < m && slices.Equal(sides(m, j), own)
					if got := tree.Check(root, m, j, l[i], path); got != want {
						t.Errorf("the path of %d of %d as that of %d of %d: %t; want %t", i, n, j, m, got, want)
					}
				}
			}
		}
	}
}

func TestP71CheckEveryBit(t *testing.T) {
	l := leaves(13)
	n := len(l)
	root := wantRoot(l)
	for i, p := range l {
		path := wantPath(l, i)
		for bit := range 256 {
			other := root
			other[bit/8] ^= 1 << (bit % 8)
			if tree.Check(other, n, i, p, path) {
				t.Errorf("leaf %d is found with bit %d of the root turned", i, bit)
			}
			for j := range path {
				turned := slices.Clone(path)
				turned[j][bit/8] ^= 1 << (bit % 8)
				if tree.Check(root, n, i, p, turned) {
					t.Errorf("leaf %d is found with bit %d of element %d turned", i, bit, j)
				}
			}
		}
		for bit := range 8 * len(p) {
			q := bytes.Clone(p)
			q[bit/8] ^= 1 << (bit % 8)
			if tree.Check(root, n, i, q, path) {
				t.Errorf("leaf %d is found with its bit %d turned", i, bit)
			}
		}
		if tree.Check(root, n, i, nil, path) || tree.Check(root, n, i, p[:2], path) || tree.Check(root, n, i, append(p[:3:3], 0), path) {
			t.Errorf("leaf %d is found with bytes left out or put behind", i)
		}
	}
}

// TestP71CheckLength: a path that leads to the root is none, if it is not as long as the place has it.
func TestP71CheckLength(t *testing.T) {
	r := rand.New(rand.NewPCG(71, 71))
	p := []byte("leaf")
	for n := 1; n < 40; n++ {
		for i := range n {
			own := sides(n, i)
			for size := range len(own) + 4 {
				path := make([][32]byte, size)
				for j := range path {
					path[j] = drawnDigest(r)
				}
				// Beyond the place's own sides, both ways of going on, so that it is the length that is refused.
				for _, more := range []bool{false, true} {
					right := append(slices.Clone(own), more, more, more)
					root := rootBy(right, p, path)
					if got, want := tree.Check(root, n, i, p, path), size == len(own); got != want {
						t.Errorf("a path of %d elements for %d of %d, which has %d: %t", size, i, n, len(own), got)
					}
					// Or what is too few taken from the upper end.
					if size < len(own) && tree.Check(rootBy(own[len(own)-size:], p, path), n, i, p, path) {
						t.Errorf("a path of %d elements for %d of %d, which has %d, is taken", size, i, n, len(own))
					}
				}
			}
		}
	}
}

// TestP71CheckParts: of what Path answers, each element left out, one put in at each place, and two of them turned.
func TestP71CheckParts(t *testing.T) {
	l := leaves(23)
	n, root := len(l), wantRoot(l)
	for i, p := range l {
		path := wantPath(l, i)
		if !tree.Check(root, n, i, p, path) {
			t.Errorf("leaf %d is not found", i)
		}
		for j := range path {
			if tree.Check(root, n, i, p, slices.Delete(slices.Clone(path), j, j+1)) {
				t.Errorf("leaf %d is found without element %d", i, j)
			}
			for k := range j {
				turned := slices.Clone(path)
				turned[j], turned[k] = turned[k], turned[j]
				if tree.Check(root, n, i, p, turned) {
					t.Errorf("leaf %d is found with elements %d and %d turned", i, j, k)
				}
			}
		}
		for j := range len(path) + 1 {
			for _, d := range [][32]byte{{}, root, wantLeaf(p)} {
				if tree.Check(root, n, i, p, slices.Insert(slices.Clone(path), j, d)) {
					t.Errorf("leaf %d is found with %x put in at %d", i, d, j)
				}
			}
		}
		if tree.Check(root, n, i, p, make([][32]byte, 100000)) {
			t.Errorf("leaf %d is found by a path of 100000", i)
		}
	}
}

// TestP71CheckBounds: n and i alone, with a path and a root that would fit.
func TestP71CheckBounds(t *testing.T) {
	p := []byte("leaf")
	only := wantLeaf(p)
	for _, c := range []struct {
		n, i int
		want bool
	}{
		{1, 0, true},
		{1, 1, false},
		{1, -1, false},
		{0, 0, false},
		{0, -1, false},
		{-1, 0, false},
		{-1, -1, false},
		{-1, -2, false},
		{math.MinInt, 0, false},
		{math.MinInt, math.MinInt, false},
		{1, math.MinInt, false},
		{1, math.MaxInt, false},
		{1 << 32, 0, false},
		{math.MaxInt, 0, false},
		{math.MaxInt, math.MaxInt - 1, false},
	} {
		if got := tree.Check(only, c.n, c.i, p, nil); got != c.want {
			t.Errorf("Check of %d of %d = %t", c.i, c.n, got)
		}
	}
	r := rand.New(rand.NewPCG(71, 7))
	for _, n := range []int{api.MaxLeaves - 1, api.MaxLeaves, api.MaxLeaves + 1, 2 * api.MaxLeaves, 1 << 30} {
		for _, i := range []int{0, 1, n / 2, n - 2, n - 1} {
			right := sides(n, i)
			path := make([][32]byte, len(right))
			for j := range path {
				path[j] = drawnDigest(r)
			}
			if got := tree.Check(rootBy(right, p, path), n, i, p, path); got != (n <= api.MaxLeaves) {
				t.Errorf("Check of %d of %d = %t", i, n, got)
			}
		}
	}
}

func TestP71CheckNothing(t *testing.T) {
	if !tree.Check(wantLeaf(nil), 1, 0, nil, nil) || !tree.Check(wantLeaf(nil), 1, 0, []byte{}, [][32]byte{}) {
		t.Error("an empty leaf alone is not found")
	}
	if tree.Check([32]byte{}, 1, 0, nil, nil) || tree.Check([32]byte{}, 0, 0, nil, nil) || tree.Check(sha256.Sum256(nil), 0, 0, nil, nil) {
		t.Error("there is a leaf where there is none")
	}
	if tree.Check([32]byte{}, 2, 0, nil, nil) || tree.Check(wantLeaf(nil), 2, 0, nil, nil) || tree.Check(wantLeaf(nil), 2, 1, nil, nil) {
		t.Error("of two leaves one is found by no path")
	}
}

func TestP72EveryCount(t *testing.T) {
	l := leaves(600)
	var g tree.Log
	for n := range len(l) {
		if g.Len() != n {
			t.Errorf("Len = %d; want %d", g.Len(), n)
		}
		if d := g.Root(); d != wantRoot(l[:n]) || d != tree.Root(l[:n]) {
			t.Errorf("Root of %d = %x; want %x", n, d, wantRoot(l[:n]))
		}
		if peaks := g.Peaks(); !slices.Equal(peaks, wantPeaks(l[:n])) {
			t.Errorf("Peaks of %d = %x; want %x", n, peaks, wantPeaks(l[:n]))
		}
		if e := g.Add(l[n]); e != api.OK {
			t.Errorf("Add to %d: %d", n, e)
		}
	}
}

func TestP72Nothing(t *testing.T) {
	var g tree.Log
	if g.Len() != 0 || g.Root() != sha256.Sum256(nil) || len(g.Peaks()) != 0 {
		t.Errorf("a log of none: %d, %x, %x", g.Len(), g.Root(), g.Peaks())
	}
	empty := wantLeaf(nil)
	for i, p := range [][]byte{nil, {}} {
		if e := g.Add(p); e != api.OK || g.Len() != i+1 {
			t.Errorf("an empty leaf: %d, and Len = %d", e, g.Len())
		}
	}
	if d := wantNode(empty, empty); g.Root() != d || !slices.Equal(g.Peaks(), [][32]byte{d}) {
		t.Errorf("two empty leaves: %x, %x; want %x", g.Root(), g.Peaks(), d)
	}
}

func TestP72DrawnLeaves(t *testing.T) {
	r := rand.New(rand.NewPCG(72, 72))
	for range 200 {
		l := make([][]byte, r.IntN(40))
		for i := range l {
			l[i] = drawn(r, r.IntN(1<<r.IntN(9)))
		}
		g := logOf(t, l)
		if g.Len() != len(l) || g.Root() != wantRoot(l) || !slices.Equal(g.Peaks(), wantPeaks(l)) {
			t.Errorf("a log of %d: %d, %x, %x", len(l), g.Len(), g.Root(), g.Peaks())
		}
	}
}

// TestP72UpToFull holds a log at and beside the powers of 2, up to MaxLeaves, and behind that.
func TestP72UpToFull(t *testing.T) {
	l := leaves(api.MaxLeaves + 3)
	counts := nearPowers()
	var g tree.Log
	for n := range api.MaxLeaves {
		if slices.Contains(counts, n) && (g.Len() != n || g.Root() != wantRoot(l[:n]) || !slices.Equal(g.Peaks(), wantPeaks(l[:n]))) {
			t.Errorf("a log of %d: %d, %x, %x", n, g.Len(), g.Root(), g.Peaks())
		}
		if e := g.Add(l[n]); e != api.OK {
			t.Fatalf("Add to %d: %d", n, e)
		}
	}
	want := wantRoot(l[:api.MaxLeaves])
	for _, p := range append(l[api.MaxLeaves:], nil) {
		if g.Len() != api.MaxLeaves || g.Root() != want || !slices.Equal(g.Peaks(), [][32]byte{want}) {
			t.Errorf("a full log: %d, %x, %x; want %x", g.Len(), g.Root(), g.Peaks(), want)
		}
		before := g
		if e := g.Add(p); e != api.ErrFull || g != before {
			t.Errorf("Add to a full log: %d, or the log became another", e)
		}
	}
}

// TestP72FewDigestsAreKept: a log has one size, and holds nothing outside of it.
func TestP72FewDigestsAreKept(t *testing.T) {
	kind := reflect.TypeFor[tree.Log]()
	if kind.Size() > 20*32 {
		t.Errorf("a log has %d bytes", kind.Size())
	}
	for i := range kind.NumField() {
		if leadsOut(kind.Field(i).Type) {
			t.Errorf("%s leads out of the log", kind.Field(i).Name)
		}
	}
}

// TestP72OnlyPeaksAreKept: of leaves and trees that went into a greater one nothing is left behind.
func TestP72OnlyPeaksAreKept(t *testing.T) {
	var g tree.Log
	for _, p := range leaves(300) {
		g.Add(p)
		if kept := digestsIn(reflect.ValueOf(g)); kept != len(g.Peaks()) {
			t.Errorf("a log of %d keeps %d digests; it has %d peaks", g.Len(), kept, len(g.Peaks()))
		}
	}
}

// digestsIn a value: how many arrays of 32 bytes it has that are not all 0.
func digestsIn(v reflect.Value) int {
	sum := 0
	switch {
	case v.Type() == reflect.TypeFor[[32]byte]():
		if !v.IsZero() {
			sum++
		}
	case v.Kind() == reflect.Array:
		for i := range v.Len() {
			sum += digestsIn(v.Index(i))
		}
	case v.Kind() == reflect.Struct:
		for i := range v.NumField() {
			sum += digestsIn(v.Field(i))
		}
	}
	return sum
}

// leadsOut: may a value of this type hold memory beside its own?
func leadsOut(kind reflect.Type) bool {
	if kind.Kind() == reflect.Array {
		return leadsOut(kind.Elem())
	}
	return kind.Kind() < reflect.Bool || kind.Kind() > reflect.Float64 || kind.Kind() == reflect.Uintptr
}

// TestP72TwoLogs: what is added to one does not show in the other, nor in a copy of it.
func TestP72TwoLogs(t *testing.T) {
	l := leaves(80)
	for n := range 70 {
		one := logOf(t, l[:n])
		two := *one
		other := append(slices.Clone(l[:n]), []byte("x"), []byte("y"), []byte("z"))
		for i := range 3 {
			one.Add(l[n+i])
			two.Add(other[n+i])
		}
		if one.Root() != wantRoot(l[:n+3]) || !slices.Equal(one.Peaks(), wantPeaks(l[:n+3])) {
			t.Errorf("a log of %d and 3 has the root %x", n, one.Root())
		}
		if two.Root() != wantRoot(other) || !slices.Equal(two.Peaks(), wantPeaks(other)) {
			t.Errorf("the copy of a log of %d and 3 has the root %x", n, two.Root())
		}
	}
}

// TestP72AskingChangesNothing: a log that was asked in between is as one that was not.
func TestP72AskingChangesNothing(t *testing.T) {
	var asked, quiet tree.Log
	for _, p := range leaves(200) {
		asked.Add(p)
		quiet.Add(p)
		asked.Root()
		asked.Peaks()
		asked.Len()
		asked.Root()
		if asked != quiet {
			t.Fatalf("a log of %d became another by being asked", quiet.Len())
		}
	}
}

// roomy: a copy of b with room behind it that a call might write to.
func roomy(b []byte) []byte {
	room := bytes.Repeat([]byte{0xa5}, len(b)+100)
	copy(room, b)
	return room[:len(b)]
}

// asItWas: does b, of roomy, still hold want and the room behind it?
func asItWas(b, want []byte) bool {
	all := b[:cap(b)]
	return bytes.Equal(all[:len(b)], want) && bytes.Equal(all[len(b):], bytes.Repeat([]byte{0xa5}, 100))
}

// fill b, and the room behind it, so that what shares memory with it shows.
func fill(b []byte) {
	all := b[:cap(b)]
	for i := range all {
		all[i] = 0xee
	}
}

// roomyList: n leaves, each with room behind it, and room behind the list.
func roomyList(n int) [][]byte {
	l := make([][]byte, n, n+10)
	for i, p := range leaves(n) {
		l[i] = roomy(p)
	}
	for i := range l[n:cap(l)] {
		l[:cap(l)][n+i] = []byte("room")
	}
	return l
}

// listAsItWas: does l, of roomyList, still hold its leaves and what is behind them?
func listAsItWas(l [][]byte) bool {
	for i, p := range leaves(len(l)) {
		if !asItWas(l[i], p) {
			return false
		}
	}
	for _, p := range l[len(l):cap(l)] {
		if string(p) != "room" {
			return false
		}
	}
	return true
}

func TestP2LeavesAreNotChangedOrKept(t *testing.T) {
	for n := 1; n < 40; n++ {
		l := roomyList(n)
		root := tree.Root(l)
		path, e := tree.Path(l, n/2)
		var g tree.Log
		for _, p := range l {
			g.Add(p)
			tree.Leaf(p)
		}
		if !listAsItWas(l) {
			t.Errorf("of %d leaves some became others", n)
		}
		for _, p := range l {
			fill(p)
		}
		if root != wantRoot(leaves(n)) || e != api.OK || !slices.Equal(path, wantPath(leaves(n), n/2)) {
			t.Errorf("a later change of %d leaves shows in a root or a path", n)
		}
		if g.Root() != root || !slices.Equal(g.Peaks(), wantPeaks(leaves(n))) {
			t.Errorf("a later change of %d leaves shows in a log", n)
		}
	}
}

func TestP2CheckChangesNothing(t *testing.T) {
	l := leaves(21)
	root := wantRoot(l)
	for i := range l {
		want := wantPath(l, i)
		room := [32]byte{0xa5}
		path := append(slices.Clone(want), room, room, room, room)[:len(want)]
		p := roomy(l[i])
		for size := range len(path) + 1 {
			tree.Check(root, len(l), i, p, path[:size])
		}
		behind := path[:len(want)+4][len(want):]
		if !slices.Equal(path, want) || !slices.Equal(behind, [][32]byte{room, room, room, room}) || !asItWas(p, l[i]) {
			t.Errorf("by Check of leaf %d the leaf, the path or the room behind them became another", i)
		}
	}
}

// TestP2AnswersAreNewMemory: what is done with one answer, and the room behind it, shows in no other and in no log.
func TestP2AnswersAreNewMemory(t *testing.T) {
	spoil := func(d [][32]byte) {
		all := d[:cap(d)]
		for i := range all {
			all[i] = [32]byte{0xee}
		}
	}
	for n := 1; n < 40; n++ {
		l := leaves(n)
		g := logOf(t, l)
		for i := range n {
			one, _ := tree.Path(l, i)
			two, _ := tree.Path(l, i)
			spoil(one)
			if three, _ := tree.Path(l, i); !slices.Equal(two, wantPath(l, i)) || !slices.Equal(three, two) {
				t.Errorf("two paths of %d of %d share memory", i, n)
			}
		}
		one, two := g.Peaks(), g.Peaks()
		spoil(one)
		if !slices.Equal(two, wantPeaks(l)) || !slices.Equal(g.Peaks(), two) || g.Root() != wantRoot(l) {
			t.Errorf("the peaks of %d share memory with others or with the log", n)
		}
		if e := g.Add([]byte("more")); e != api.OK || !slices.Equal(two, wantPeaks(l)) {
			t.Errorf("a leaf that is added shows in peaks of %d that were told", n)
		}
	}
}

// TestP2LeavesInOneMemory: that leaves share memory does not show.
func TestP2LeavesInOneMemory(t *testing.T) {
	b := body(60)
	for n := 1; n < 30; n++ {
		var shared, apart [][]byte
		for i := range n {
			shared = append(shared, b[i:2*i])
			apart = append(apart, bytes.Clone(b[i:2*i]))
		}
		if got := tree.Root(shared); got != wantRoot(apart) {
			t.Errorf("Root of %d pieces = %x", n, got)
		}
		if got := logOf(t, shared).Root(); got != wantRoot(apart) {
			t.Errorf("Root of a log of %d pieces = %x", n, got)
		}
	}
}
