package attr_test

import (
	"bytes"
	"math"
	"math/rand/v2"
	"reflect"
	"slices"
	"testing"

	"sealring/api"
	"sealring/attr"
)

// The document's numbers, as it writes them, and not as package api or attr has them.
const (
	large   = 2
	short   = 3
	form    = 4
	arg     = 1
	kind    = 13
	fine    = 0
	maxList = 24
)

func a(kind int, value ...byte) api.Attr { return api.Attr{Kind: kind, Value: value} }

// mayBe: is the Value one of that Kind's, as P200 tells it? Second: is there such a Kind?
func mayBe(x api.Attr) (bool, bool) {
	switch x.Kind {
	case 1:
		return bytes.Contains([]byte{1, 2, 3, 4}, x.Value) && len(x.Value) == 1, true
	case 2, 3:
		return len(x.Value) < 33, true
	case 4:
		return len(x.Value) < 65, true
	case 5, 6, 7, 8, 9, 10, 11, 12, 13, 14, 15, 16, 17, 18:
		return string(x.Value) == "\x00" || string(x.Value) == "\x01", true
	}
	return false, false
}

// checked: l's error, as P200 tells it.
func checked(l []api.Attr) api.Errno {
	if len(l) > maxList {
		return large
	}
	for i, x := range l {
		if _, ok := mayBe(x); !ok {
			return kind
		}
		if ok, _ := mayBe(x); !ok {
			return form
		}
		if slices.ContainsFunc(l[:i], func(y api.Attr) bool { return y.Kind == x.Kind }) {
			return arg
		}
	}
	return fine
}

// normed: l's attributes as P201 tells them, by rising Kinds.
func normed(l []api.Attr) ([]api.Attr, api.Errno) {
	if e := checked(l); e != fine {
		return nil, e
	}
	m := slices.Clone(l)
	slices.SortFunc(m, func(x, y api.Attr) int { return x.Kind - y.Kind })
	return m, fine
}

// overOf both, as P202 tells it.
func overOf(l, top []api.Attr) ([]api.Attr, api.Errno) {
	if e := checked(l); e != fine {
		return nil, e
	}
	if e := checked(top); e != fine {
		return nil, e
	}
	m := slices.Clone(top)
	for _, x := range l {
		if !slices.ContainsFunc(top, func(y api.Attr) bool { return y.Kind == x.Kind }) {
			m = append(m, x)
		}
	}
	return normed(m)
}

// packed: l's items, each LENGTH of one byte, as no Value has 128.
func packed(l []api.Attr) ([]byte, api.Errno) {
	m, e := normed(l)
	var b []byte
	for _, x := range m {
		b = append(append(b, byte(x.Kind), byte(len(x.Value))), x.Value...)
	}
	return b, e
}

// unpacked: what P202 tells of b, while its items are below 128 bytes.
func unpacked(b []byte) ([]api.Attr, api.Errno) {
	var l []api.Attr
	for len(b) > 0 {
		if len(b) < 2 {
			return nil, short
		}
		if b[1] == 128 || b[1] > 130 {
			return nil, form
		}
		if b[1] > 128 {
			return nil, longer(b)
		}
		if len(b) < 2+int(b[1]) {
			return nil, short
		}
		l = append(l, a(int(b[0]), b[2:2+b[1]]...))
		b = b[2+b[1]:]
	}
	if e := checked(l); e != fine {
		return nil, e
	}
	for i := range l {
		if i > 0 && l[i].Kind < l[i-1].Kind {
			return nil, arg
		}
	}
	return l, fine
}

// longer: the error of an item whose LENGTH has a byte of 129 or 130 first, where its Body is not all there.
func longer(b []byte) api.Errno {
	size := int(b[1]) - 128
	if len(b) < 2+size {
		return short
	}
	n := 0
	for _, x := range b[2 : 2+size] {
		n = n<<8 + int(x)
	}
	if size == 1 && n < 128 || size == 2 && n < 256 {
		return form
	}
	if n > 4096 {
		return large
	}
	return short
}

// same lists, where an empty Value may be nil or not.
func same(l, m []api.Attr) bool {
	return slices.EqualFunc(l, m, func(x, y api.Attr) bool { return x.Kind == y.Kind && bytes.Equal(x.Value, y.Value) })
}

// deep copy of a list.
func deep(l []api.Attr) []api.Attr {
	m := make([]api.Attr, len(l))
	for i, x := range l {
		m[i] = a(x.Kind, bytes.Clone(x.Value)...)
	}
	return m
}

func drawnBytes(r *rand.Rand, n int) []byte {
	b := make([]byte, n)
	for i := range b {
		b[i] = byte(r.Uint32())
	}
	return b
}

// drawnValue that may be of that Kind.
func drawnValue(r *rand.Rand, kind int) []byte {
	switch kind {
	case 1:
		return []byte{byte(1 + r.IntN(4))}
	case 2, 3:
		return drawnBytes(r, r.IntN(33))
	case 4:
		return drawnBytes(r, r.IntN(65))
	}
	return []byte{byte(r.IntN(2))}
}

// drawnRight: a list that Check takes, of count Kinds in any order.
func drawnRight(r *rand.Rand, count int) []api.Attr {
	var l []api.Attr
	for _, k := range r.Perm(18)[:count] {
		l = append(l, a(k+1, drawnValue(r, k+1)...))
	}
	return l
}

// drawnAny: a list that may be right, and most often is not, or not quite.
func drawnAny(r *rand.Rand) []api.Attr {
	l := drawnRight(r, r.IntN(19))
	for r.IntN(3) > 0 {
		k := r.IntN(18) + 1
		x := a(k, drawnValue(r, k)...)
		switch r.IntN(5) {
		case 0:
			x.Kind = r.IntN(24) - 2
		case 1:
			x.Value = drawnBytes(r, r.IntN(70))
		case 2:
			x.Value = []byte{byte(r.IntN(6))}
		}
		l = slices.Insert(l, r.IntN(len(l)+1), x)
	}
	return l
}

// wantCheck, and of Norm and Pack the same error.
func wantCheck(t *testing.T, l []api.Attr, want api.Errno) {
	t.Helper()
	if e := attr.Check(l); e != want {
		t.Errorf("Check of %v: %d; want %d", l, e, want)
	}
	sorted, _ := normed(l)
	if m, e := attr.Norm(l); e != want || !same(m, sorted) || e != fine && m != nil {
		t.Errorf("Norm of %v: %v, %d; want %v, %d", l, m, e, sorted, want)
	}
	text, _ := packed(l)
	if b, e := attr.Pack(l); e != want || !bytes.Equal(b, text) || e != fine && b != nil {
		t.Errorf("Pack of %v: %x, %d; want %x, %d", l, b, e, text, want)
	}
}

func wantOver(t *testing.T, l, top []api.Attr) {
	t.Helper()
	want, err := overOf(l, top)
	if m, e := attr.Over(l, top); e != err || !same(m, want) || e != fine && m != nil {
		t.Errorf("Over of %v and %v: %v, %d; want %v, %d", l, top, m, e, want, err)
	}
}

func wantUnpack(t *testing.T, b []byte, want []api.Attr, err api.Errno) {
	t.Helper()
	if l, e := attr.Unpack(b); e != err || !same(l, want) || e != fine && l != nil {
		t.Errorf("Unpack of %x: %v, %d; want %v, %d", b, l, e, want, err)
	}
}

// TestP200Kinds: each Kind by its number, with a Value that may be, and all others.
func TestP200Kinds(t *testing.T) {
	for k, want := range map[int]int{
		api.AClass: 1, api.ALabel: 2, api.AId: 3, api.AValue: 4, api.AToken: 5, api.APrivate: 6,
		api.AModify: 7, api.ASensitive: 8, api.AExtract: 9, api.AAlways: 10, api.ANever: 11, api.ALocal: 12,
		api.ASign: 13, api.AVerify: 14, api.ACrypt: 15, api.AWrap: 16, api.AUnwrap: 17, api.ADerive: 18,
	} {
		if k != want {
			t.Errorf("a Kind is %d; want %d", k, want)
		}
		wantCheck(t, []api.Attr{a(k, 1)}, fine)
	}
	for k := -300; k < 600; k++ {
		if k < 1 || k > 18 {
			wantCheck(t, []api.Attr{a(k, 1)}, kind)
			wantCheck(t, []api.Attr{a(k)}, kind)
		}
	}
	for _, k := range []int{math.MinInt, math.MinInt + 1, math.MinInt32, 1<<32 + 1, 1<<32 + 5, math.MaxInt32, math.MaxInt - 1, math.MaxInt} {
		wantCheck(t, []api.Attr{a(k, 1)}, kind)
	}
}

// TestP200Bytes: each Value of one byte, of each Kind.
func TestP200Bytes(t *testing.T) {
	for k := 1; k <= 18; k++ {
		for v := range 256 {
			right := v < 2
			switch k {
			case 1:
				right = v >= 1 && v <= 4
			case 2, 3, 4:
				right = true
			}
			want := api.Errno(form)
			if right {
				want = fine
			}
			wantCheck(t, []api.Attr{a(k, byte(v))}, want)
		}
	}
	for c, want := range map[byte]byte{api.CData: 1, api.CSecret: 2, api.CPublic: 3, api.CPrivate: 4} {
		if c != want {
			t.Errorf("a class is %d; want %d", c, want)
		}
	}
}

// TestP200Lengths: Values of each length, of each Kind, of noughts, of ones, and of drawn bytes.
func TestP200Lengths(t *testing.T) {
	r := rand.New(rand.NewPCG(200, 1))
	for k := 1; k <= 18; k++ {
		for n := range 300 {
			want := api.Errno(form)
			switch {
			case k == 4 && n <= 64, (k == 2 || k == 3) && n <= 32, k != 2 && k != 3 && n == 1:
				want = fine
			}
			wantCheck(t, []api.Attr{a(k, bytes.Repeat([]byte{1}, n)...)}, want)
			if n != 1 {
				wantCheck(t, []api.Attr{a(k, make([]byte, n)...)}, want)
				wantCheck(t, []api.Attr{a(k, drawnBytes(r, n)...)}, want)
			}
		}
	}
}

// TestP200Many: how many there may be is asked ahead of what they are.
func TestP200Many(t *testing.T) {
	wantCheck(t, nil, fine)
	wantCheck(t, []api.Attr{}, fine)
	for n := 2; n < 60; n++ {
		alike := make([]api.Attr, n)
		for i := range alike {
			alike[i] = a(2)
		}
		wantCheck(t, alike, largeAbove24(n, arg))
		alike[0] = a(77)
		wantCheck(t, alike, largeAbove24(n, kind))
		alike[0] = a(5, 3)
		wantCheck(t, alike, largeAbove24(n, form))
	}
	all := drawnRight(rand.New(rand.NewPCG(200, 2)), 18)
	wantCheck(t, all, fine)
	wantCheck(t, append(all, a(2), a(2), a(2), a(2), a(2), a(2), a(2)), large)
	wantCheck(t, append(all, a(2), a(2), a(2), a(2), a(2), a(2)), arg)
	wantCheck(t, make([]api.Attr, 100000), large)
}

// largeAbove24 elements; else that error.
func largeAbove24(n int, e api.Errno) api.Errno {
	if n > 24 {
		return large
	}
	return e
}

// TestP200Order: of one element the Kind's error, the Value's, that of one ahead; of more of them that of the first.
func TestP200Order(t *testing.T) {
	badKind, badValue, twice := a(0, 9), a(5, 9), a(6, 1)
	for _, n := range []int{0, 1, 5} {
		ahead := append([]api.Attr{a(6, 0)}, drawnLabels(n)...)
		wantCheck(t, append(slices.Clone(ahead), badKind, badValue, twice), kind)
		wantCheck(t, append(slices.Clone(ahead), badKind, twice, badValue), kind)
		wantCheck(t, append(slices.Clone(ahead), badValue, badKind, twice), form)
		wantCheck(t, append(slices.Clone(ahead), badValue, twice, badKind), form)
		wantCheck(t, append(slices.Clone(ahead), twice, badKind, badValue), arg)
		wantCheck(t, append(slices.Clone(ahead), twice, badValue, badKind), arg)
		// Twice there, and no Value of its Kind.
		wantCheck(t, append(slices.Clone(ahead), a(6, 2)), form)
	}
	// Twice there, and no Kind.
	wantCheck(t, []api.Attr{a(19), a(19)}, kind)
}

// drawnLabels: n elements of Kinds from 13 on, each right.
func drawnLabels(n int) []api.Attr {
	var l []api.Attr
	for i := range n {
		l = append(l, a(13+i, 1))
	}
	return l
}

// TestP200Twice: each Kind, twice there, at any places, with the same Value and with another one.
func TestP200Twice(t *testing.T) {
	r := rand.New(rand.NewPCG(200, 3))
	for k := 1; k <= 18; k++ {
		for range 40 {
			l := drawnRight(r, 1+r.IntN(18))
			l = slices.DeleteFunc(l, func(x api.Attr) bool { return x.Kind == k })
			x := a(k, drawnValue(r, k)...)
			l = slices.Insert(l, r.IntN(len(l)+1), x)
			wantCheck(t, l, fine)
			wantCheck(t, slices.Insert(slices.Clone(l), r.IntN(len(l)+1), x), arg)
			wantCheck(t, slices.Insert(slices.Clone(l), r.IntN(len(l)+1), a(k, drawnValue(r, k)...)), arg)
		}
	}
}

func TestP200Drawn(t *testing.T) {
	r := rand.New(rand.NewPCG(200, 4))
	count := map[api.Errno]int{}
	for range 20000 {
		l := drawnAny(r)
		count[checked(l)]++
		wantCheck(t, l, checked(l))
	}
	for _, e := range []api.Errno{fine, arg, large, form, kind} {
		if count[e] < 10 {
			t.Errorf("of the lists too few have the error %d: %v", e, count)
		}
	}
}

// TestP201Norm: each order of five, and many of all eighteen, is told in the one that rises.
func TestP201Norm(t *testing.T) {
	r := rand.New(rand.NewPCG(201, 1))
	for range 500 {
		all := drawnRight(r, r.IntN(19))
		m, e := attr.Norm(all)
		if e != fine || len(m) != len(all) || !slices.IsSortedFunc(m, func(x, y api.Attr) int { return x.Kind - y.Kind }) {
			t.Fatalf("%v, %d", m, e)
		}
		for _, x := range all {
			if !slices.ContainsFunc(m, func(y api.Attr) bool { return same([]api.Attr{x}, []api.Attr{y}) }) {
				t.Errorf("of %v there is not %v", m, x)
			}
		}
		for range 5 {
			r.Shuffle(len(all), func(i, j int) { all[i], all[j] = all[j], all[i] })
			if o, e := attr.Norm(all); e != fine || !same(o, m) {
				t.Errorf("in another order: %v, %d; want %v", o, e, m)
			}
		}
		if o, e := attr.Norm(m); e != fine || !same(o, m) {
			t.Errorf("of what rises: %v, %d; want %v", o, e, m)
		}
	}
}

func wantGet(t *testing.T, l []api.Attr, k int, want []byte, there bool) {
	t.Helper()
	if v, ok := attr.Get(l, k); ok != there || !bytes.Equal(v, want) || !there && v != nil {
		t.Errorf("Get of %v, %d: %x, %t; want %x, %t", l, k, v, ok, want, there)
	}
	if is := attr.Is(l, k); is != (there && string(want) == "\x01") {
		t.Errorf("Is of %v, %d: %t", l, k, is)
	}
	if ok := attr.Match(l, []api.Attr{a(k, want...)}); ok != there {
		t.Errorf("Match of %v, %d: %t", l, k, ok)
	}
	if ok := attr.Match(l, []api.Attr{a(k, append(bytes.Clone(want), 0)...)}); ok {
		t.Errorf("Match of %v, %d, and one more byte: %t", l, k, ok)
	}
}

// TestP201Get: the first of a Kind, any Kind, any Value.
func TestP201Get(t *testing.T) {
	long := bytes.Repeat([]byte{7}, 100000)
	l := []api.Attr{a(5, 1), a(5, 0), a(-3, 1), a(0), a(19, 1, 1), a(4, long...), a(0, 1), a(math.MaxInt, 2), a(math.MinInt, 0), a(7), a(7, 1), a(2, 1)}
	wantGet(t, l, 5, []byte{1}, true)
	wantGet(t, l, -3, []byte{1}, true)
	wantGet(t, l, 0, nil, true)
	wantGet(t, l, 19, []byte{1, 1}, true)
	wantGet(t, l, 4, long, true)
	wantGet(t, l, math.MaxInt, []byte{2}, true)
	wantGet(t, l, math.MinInt, []byte{0}, true)
	wantGet(t, l, 7, nil, true)
	wantGet(t, l, 2, []byte{1}, true)
	for _, k := range []int{1, 3, 6, 8, 18, 20, -1, 256 + 5, 1<<32 + 5, math.MaxInt - 1, math.MinInt + 1} {
		wantGet(t, l, k, nil, false)
		wantGet(t, nil, k, nil, false)
		wantGet(t, []api.Attr{}, k, nil, false)
	}
}

// TestP201Is: the one byte 1, and nothing else.
func TestP201Is(t *testing.T) {
	for k := -1; k < 21; k++ {
		for v := range 256 {
			if is := attr.Is([]api.Attr{a(k, byte(v))}, k); is != (v == 1) {
				t.Errorf("Kind %d of the byte %d: %t", k, v, is)
			}
			if attr.Is([]api.Attr{a(k, 1, byte(v))}, k) || attr.Is([]api.Attr{a(k, byte(v), 1)}, k) {
				t.Errorf("Kind %d of the bytes 1 and %d", k, v)
			}
		}
		if attr.Is([]api.Attr{a(k)}, k) || attr.Is([]api.Attr{a(k, 0), a(k, 1)}, k) || attr.Is([]api.Attr{a(k), a(k, 1)}, k) {
			t.Errorf("Kind %d is 1", k)
		}
		if !attr.Is([]api.Attr{a(k, 1), a(k, 0)}, k) || attr.Is([]api.Attr{a(k, 1)}, k+1) || attr.Is(nil, k) {
			t.Errorf("Kind %d is not 1", k)
		}
	}
}

// TestP201GetDrawn: lists with Kinds more than once, against what goes through them from behind.
func TestP201GetDrawn(t *testing.T) {
	r := rand.New(rand.NewPCG(201, 2))
	for range 3000 {
		l := drawnAny(r)
		for k := -3; k < 24; k++ {
			var want []byte
			there := false
			for i := len(l) - 1; i >= 0; i-- {
				if l[i].Kind == k {
					want, there = l[i].Value, true
				}
			}
			wantGet(t, l, k, want, there)
		}
	}
}

func wantMatch(t *testing.T, l, ask []api.Attr, want bool) {
	t.Helper()
	if ok := attr.Match(l, ask); ok != want {
		t.Errorf("Match of %v and %v: %t", l, ask, ok)
	}
}

func TestP201Match(t *testing.T) {
	l := []api.Attr{a(3, 1, 2, 3), a(2), a(3, 9), a(99, 5), a(-1, 0)}
	wantMatch(t, l, nil, true)
	wantMatch(t, l, []api.Attr{}, true)
	wantMatch(t, nil, nil, true)
	wantMatch(t, nil, []api.Attr{a(2)}, false)
	wantMatch(t, nil, []api.Attr{a(0)}, false)
	wantMatch(t, l, []api.Attr{a(2)}, true)
	wantMatch(t, l, []api.Attr{{Kind: 2, Value: []byte{}}}, true)
	wantMatch(t, l, []api.Attr{a(4)}, false)
	wantMatch(t, l, []api.Attr{a(3, 1, 2, 3)}, true)
	wantMatch(t, l, []api.Attr{a(3, 9)}, false)
	wantMatch(t, l, []api.Attr{a(3, 1, 2)}, false)
	wantMatch(t, l, []api.Attr{a(3, 1, 2, 3, 0)}, false)
	wantMatch(t, l, []api.Attr{a(3, 0, 2, 3)}, false)
	wantMatch(t, l, []api.Attr{a(3)}, false)
	wantMatch(t, l, []api.Attr{a(99, 5), a(-1, 0), a(2), a(3, 1, 2, 3)}, true)
	wantMatch(t, l, []api.Attr{a(3, 1, 2, 3), a(3, 1, 2, 3)}, true)
	wantMatch(t, l, []api.Attr{a(3, 1, 2, 3), a(3, 9)}, false)
	wantMatch(t, l, []api.Attr{a(3, 9), a(3, 1, 2, 3)}, false)
	wantMatch(t, l, []api.Attr{a(2), a(4), a(3, 1, 2, 3)}, false)
	wantMatch(t, l, l[:2], true)
	wantMatch(t, l, l, false)
	wantMatch(t, l, l[3:], true)
	wantMatch(t, l[3:], l, false)
}

// TestP201MatchDrawn: what a list has is matched in any order, and not with any bit of it turned, nor by a list from which it is gone.
func TestP201MatchDrawn(t *testing.T) {
	r := rand.New(rand.NewPCG(201, 3))
	for range 300 {
		l := drawnRight(r, 1+r.IntN(18))
		ask := deep(l)
		r.Shuffle(len(ask), func(i, j int) { ask[i], ask[j] = ask[j], ask[i] })
		ask = ask[r.IntN(len(ask)):]
		wantMatch(t, l, ask, true)
		for i := range ask {
			gone := slices.DeleteFunc(slices.Clone(l), func(x api.Attr) bool { return x.Kind == ask[i].Kind })
			wantMatch(t, gone, ask, false)
			for bit := range 8 * len(ask[i].Value) {
				ask[i].Value[bit/8] ^= 1 << (bit % 8)
				wantMatch(t, l, ask, false)
				ask[i].Value[bit/8] ^= 1 << (bit % 8)
			}
		}
		wantMatch(t, l, append(ask, a(0)), false)
	}
}

func TestP202OverExample(t *testing.T) {
	l := []api.Attr{a(18, 1), a(2, 5, 6), a(1, 2), a(4, 9)}
	top := []api.Attr{a(13, 0), a(4), a(2, 7)}
	want := []api.Attr{a(1, 2), a(2, 7), a(4), a(13, 0), a(18, 1)}
	if m, e := attr.Over(l, top); e != fine || !same(m, want) {
		t.Errorf("%v, %d; want %v", m, e, want)
	}
	want = []api.Attr{a(1, 2), a(2, 5, 6), a(4, 9), a(13, 0), a(18, 1)}
	if m, e := attr.Over(top, l); e != fine || !same(m, want) {
		t.Errorf("%v, %d; want %v", m, e, want)
	}
}

func TestP202Over(t *testing.T) {
	r := rand.New(rand.NewPCG(202, 1))
	for range 5000 {
		wantOver(t, drawnRight(r, r.IntN(19)), drawnRight(r, r.IntN(19)))
		wantOver(t, drawnAny(r), drawnAny(r))
	}
	all := drawnRight(r, 18)
	wantOver(t, all, drawnRight(r, 18))
	wantOver(t, all, nil)
	wantOver(t, nil, all)
	wantOver(t, nil, nil)
	wantOver(t, all, all)
}

// TestP202OverErrors: l's ahead of top's, whatever they are; and how many they are together is nothing wrong.
func TestP202OverErrors(t *testing.T) {
	many := make([]api.Attr, 25)
	lists := map[api.Errno][]api.Attr{large: many, kind: many[:3], form: {a(4, make([]byte, 65)...)}, arg: {a(4), a(4)}, fine: {a(4)}}
	for e, l := range lists {
		for f, top := range lists {
			want := e
			if e == fine {
				want = f
			}
			if m, got := attr.Over(l, top); got != want || len(m) > 0 && got != fine {
				t.Errorf("of %d and %d: %v, %d", e, f, m, got)
			}
		}
	}
	r := rand.New(rand.NewPCG(202, 2))
	for n := range 19 {
		wantOver(t, drawnRight(r, 18), drawnRight(r, n))
	}
}

// TestP202PackExample: written by hand.
func TestP202PackExample(t *testing.T) {
	l := []api.Attr{a(18, 0), a(4, 10, 11, 12), a(1, 4), a(2)}
	want := []byte{1, 1, 4, 2, 0, 4, 3, 10, 11, 12, 18, 1, 0}
	if b, e := attr.Pack(l); e != fine || !bytes.Equal(b, want) {
		t.Errorf("%x, %d", b, e)
	}
	wantUnpack(t, want, []api.Attr{a(1, 4), a(2), a(4, 10, 11, 12), a(18, 0)}, fine)
	if b, e := attr.Pack(nil); e != fine || len(b) > 0 {
		t.Errorf("%x, %d", b, e)
	}
	wantUnpack(t, nil, nil, fine)
	wantUnpack(t, []byte{}, nil, fine)
}

// TestP202ThereAndBack: what is packed is unpacked as Norm has it, and cut anywhere it is what is left of it, or nothing.
func TestP202ThereAndBack(t *testing.T) {
	r := rand.New(rand.NewPCG(202, 3))
	for range 300 {
		l := drawnRight(r, r.IntN(19))
		want, _ := normed(l)
		b, e := attr.Pack(l)
		if e != fine {
			t.Fatal(l, e)
		}
		wantUnpack(t, b, want, fine)
		for n := range b {
			m, e := unpacked(b[:n])
			wantUnpack(t, b[:n], m, e)
		}
	}
}

// TestP202Turned: each byte of a packed list turned to each other one.
func TestP202Turned(t *testing.T) {
	r := rand.New(rand.NewPCG(202, 4))
	count := map[api.Errno]int{}
	for range 20 {
		b, _ := packed(drawnRight(r, 1+r.IntN(18)))
		for i := range b {
			for v := range 256 {
				c := bytes.Clone(b)
				c[i] = byte(v)
				if v > 128 && v < 131 && len(c) > 120 {
					continue // a Body of 128 bytes and more may be all there: that is der's
				}
				m, e := unpacked(c)
				count[e]++
				wantUnpack(t, c, m, e)
			}
		}
	}
	for _, e := range []api.Errno{fine, arg, short, form, kind} {
		if count[e] < 100 {
			t.Errorf("too few have the error %d: %v", e, count)
		}
	}
}

// TestP202UnpackErrors: der.Read's ahead of Check's, Check's ahead of that of what does not rise.
func TestP202UnpackErrors(t *testing.T) {
	for _, c := range []struct {
		text string
		want api.Errno
	}{
		{"\x05", short}, {"\x05\x01", short}, {"\x04\x03\x01\x02", short},
		{"\x04\x80", form}, {"\x04\x83", form}, {"\x04\xff", form}, {"\x04\x81", short}, {"\x04\x81\x05", form}, {"\x04\x82\x00\x81", form}, {"\x04\x82\x10\x01", large},
		// Ahead of what Check has against what stands ahead.
		{"\x00\x00\x05", short}, {"\x05\x01\x09\x04\x80", form}, {"\x05\x01\x01\x05\x01\x01\x04\x82\x10\x01", large},
		{"\x00\x00", kind}, {"\x13\x00", kind}, {"\xff\x01\x01", kind}, {"\x13\x01\x01\x13\x01\x01", kind},
		{"\x05\x01\x02", form}, {"\x05\x00", form}, {"\x01\x01\x00", form}, {"\x01\x01\x05", form},
		{"\x05\x01\x01\x05\x01\x01", arg}, {"\x02\x00\x03\x00\x02\x00", arg},
		{"\x06\x01\x01\x05\x01\x01", arg}, {"\x12\x01\x01\x01\x01\x01", arg}, {"\x02\x00\x04\x00\x03\x00", arg}, {"\x03\x00\x02\x00\x04\x00", arg},
		// Ahead of what does not rise.
		{"\x06\x01\x01\x05\x01\x02", form}, {"\x06\x01\x01\x05\x01\x01\x00\x00", kind}, {"\x06\x01\x01\x05\x01\x01\x07\x01\x02", form},
	} {
		wantUnpack(t, []byte(c.text), nil, c.want)
	}
	longest := append([]byte{4, 64}, make([]byte, 64)...)
	wantUnpack(t, longest, []api.Attr{a(4, make([]byte, 64)...)}, fine)
	wantUnpack(t, append([]byte{4, 65}, make([]byte, 65)...), nil, form)
	wantUnpack(t, append([]byte{4, 129, 128}, make([]byte, 128)...), nil, form)
	wantUnpack(t, append([]byte{4, 130, 16, 0}, make([]byte, 4096)...), nil, form)
	wantUnpack(t, append([]byte{4, 130, 16, 1}, make([]byte, 4097)...), nil, large)
}

// TestP202UnpackMany: more than 24 items are too many, whatever they are; what der.Read refuses is refused ahead of that.
func TestP202UnpackMany(t *testing.T) {
	for n := 1; n < 210; n++ {
		b := bytes.Repeat([]byte{0, 0}, n)
		wantUnpack(t, b, nil, largeAbove24(n, kind))
		// More than 200 items are refused ahead of the end that is missing.
		want := api.Errno(short)
		if n >= 200 {
			want = large
		}
		wantUnpack(t, append(b, 4, 9), nil, want)
	}
	wantUnpack(t, make([]byte, 65537), nil, large)
	wantUnpack(t, bytes.Repeat([]byte{4}, 65537), nil, large)
	wantUnpack(t, bytes.Repeat([]byte{128}, 65536), nil, form)
}

// TestP1AnyGiven: whatever is handed in, there is an answer.
func TestP1AnyGiven(t *testing.T) {
	r := rand.New(rand.NewPCG(1, 200))
	lists := [][]api.Attr{nil, {}, {{}}, make([]api.Attr, 24), make([]api.Attr, 25), make([]api.Attr, 5000), {a(math.MaxInt), a(math.MinInt)}, {a(4, make([]byte, 1<<20)...)}}
	for range 50 {
		lists = append(lists, drawnAny(r))
	}
	for _, l := range lists {
		wantCheck(t, l, checked(l))
		for _, k := range []int{math.MinInt, -1, 0, 1, 4, 18, 19, math.MaxInt} {
			attr.Get(l, k)
			attr.Is(l, k)
		}
		for _, m := range lists {
			attr.Match(l, m)
			wantOver(t, l, m)
		}
	}
	for range 20000 {
		attr.Unpack(drawnBytes(r, r.IntN(60)))
	}
}

// roomy: a list as l, with room behind it and behind each Value, all of which is told too.
func roomy(l []api.Attr) ([]api.Attr, func() []api.Attr) {
	behind := make([]api.Attr, len(l)+30)
	whole := make([]api.Attr, len(l)+30)
	for i := range behind {
		value := bytes.Repeat([]byte{0xEE}, 80)
		n := 5
		if i < len(l) {
			n = copy(value, l[i].Value)
			behind[i].Kind = l[i].Kind
		}
		behind[i].Value = value[:n]
		whole[i] = api.Attr{Kind: behind[i].Kind, Value: value}
	}
	return behind[:len(l)], func() []api.Attr {
		for i := range whole {
			whole[i].Kind = behind[i].Kind
			if len(behind[i].Value) > 0 && &behind[i].Value[0] != &whole[i].Value[0] {
				whole[i].Kind = -77
			}
		}
		return deep(whole)
	}
}

// TestP2NotChanged: nothing that is handed in is changed, nor the room behind it.
func TestP2NotChanged(t *testing.T) {
	r := rand.New(rand.NewPCG(2, 200))
	for range 300 {
		l, all := roomy(drawnRight(r, r.IntN(19)))
		top, topAll := roomy(drawnRight(r, r.IntN(19)))
		before, topBefore := all(), topAll()
		attr.Check(l)
		attr.Norm(l)
		attr.Over(l, top)
		attr.Over(l, top[:0])
		attr.Over(l[:0], top)
		b, _ := attr.Pack(l)
		for k := range 20 {
			attr.Get(l, k)
			attr.Is(l, k)
		}
		attr.Match(l, top)
		if !reflect.DeepEqual(all(), before) || !reflect.DeepEqual(topAll(), topBefore) {
			t.Fatalf("%v or %v was changed", before, topBefore)
		}
		text := append(bytes.Clone(b), 0xEE, 0xEE)
		attr.Unpack(text[:len(b)])
		if !bytes.Equal(text, append(bytes.Clone(b), 0xEE, 0xEE)) {
			t.Fatalf("%x was changed", b)
		}
	}
}

// spoil all that l has, the room behind it included.
func spoil(l []api.Attr) {
	l = l[:cap(l)]
	for i := range l {
		l[i].Kind ^= 0x55
		v := l[i].Value[:cap(l[i].Value)]
		for j := range v {
			v[j] ^= 0x55
		}
	}
}

// TestP2NewMemory: what is answered shares none with what was handed in, nor one part of it with another.
func TestP2NewMemory(t *testing.T) {
	r := rand.New(rand.NewPCG(2, 201))
	for range 300 {
		l, top := drawnRight(r, 1+r.IntN(18)), drawnRight(r, 1+r.IntN(18))
		lBefore, topBefore := deep(l), deep(top)
		over, _ := attr.Over(l, top)
		under, _ := attr.Over(l, nil)
		alone, _ := attr.Over(nil, top)
		norm, _ := attr.Norm(l)
		text, _ := attr.Pack(l)
		value, _ := attr.Get(l, l[0].Kind)
		for _, m := range [][]api.Attr{over, under, alone, norm} {
			spoil(m)
		}
		for i := range text {
			text[i] ^= 0x55
		}
		for i := range value[:cap(value)] {
			value[:cap(value)][i] ^= 0x55
		}
		if !reflect.DeepEqual(deep(l), lBefore) || !reflect.DeepEqual(deep(top), topBefore) {
			t.Fatalf("a change of what was answered shows in %v or %v", lBefore, topBefore)
		}
		norm, _ = attr.Norm(l)
		spoil(norm[:1:1])
		if want, _ := normed(l); !same(norm[1:], want[1:]) {
			t.Fatalf("two attributes share their memory: %v", norm)
		}
	}
}

// TestP2NotKept: a change of what was handed in shows in nothing that was answered.
func TestP2NotKept(t *testing.T) {
	r := rand.New(rand.NewPCG(2, 202))
	for range 300 {
		l, top := drawnRight(r, 1+r.IntN(18)), drawnRight(r, 1+r.IntN(18))
		b, _ := packed(l)
		wantNorm, _ := normed(l)
		wantNorm = deep(wantNorm)
		wantOver, _ := overOf(l, top)
		wantOver = deep(wantOver)
		wantValue := bytes.Clone(l[0].Value)
		norm, _ := attr.Norm(l)
		over, _ := attr.Over(l, top)
		value, _ := attr.Get(l, l[0].Kind)
		back, _ := attr.Unpack(b)
		spoil(l)
		spoil(top)
		for i := range b {
			b[i] ^= 0x55
		}
		if !same(norm, wantNorm) || !same(over, wantOver) || !bytes.Equal(value, wantValue) || !same(back, wantNorm) {
			t.Fatalf("a change of what was handed in shows: %v, %v, %x, %v", norm, over, value, back)
		}
		for i := range back {
			v := back[i].Value
			if cap(v) > len(v) {
				v = append(v, 0x99)
			}
			back[i].Value = v[:len(wantNorm[i].Value)]
		}
		if !same(back, wantNorm) {
			t.Fatalf("two attributes share their memory: %v", back)
		}
	}
}

// TestP2AskedAgain: the same is answered, whatever was asked meanwhile.
func TestP2AskedAgain(t *testing.T) {
	r := rand.New(rand.NewPCG(2, 203))
	l, top := drawnRight(r, 12), drawnRight(r, 12)
	norm, _ := attr.Norm(l)
	over, _ := attr.Over(l, top)
	text, _ := attr.Pack(l)
	for range 300 {
		attr.Norm(drawnAny(r))
		attr.Over(drawnAny(r), drawnAny(r))
		attr.Unpack(drawnBytes(r, 20))
		n, _ := attr.Norm(l)
		o, _ := attr.Over(l, top)
		b, _ := attr.Pack(l)
		u, _ := attr.Unpack(text)
		if !same(n, norm) || !same(o, over) || !bytes.Equal(b, text) || !same(u, norm) {
			t.Fatalf("asked again: %v, %v, %x, %v", n, o, b, u)
		}
	}
}
