package rule_test

import (
	"bytes"
	"math"
	"math/rand/v2"
	"reflect"
	"slices"
	"testing"

	"sealring/api"
	"sealring/rule"
)

// The document's numbers, as it writes them, and not as package api or rule has them.
const (
	fine   = 0
	arg    = 1
	large  = 2
	short  = 3
	form   = 4
	denied = 12
	wrong  = 13 // ErrType

	data    = 1
	secret  = 2
	public  = 3
	private = 4

	aClass     = 1
	aLabel     = 2
	aID        = 3
	aValue     = 4
	aToken     = 5
	aPrivate   = 6
	aModify    = 7
	aSensitive = 8
	aExtract   = 9
	aAlways    = 10
	aNever     = 11
	aLocal     = 12
	aSign      = 13
	aVerify    = 14
	aCrypt     = 15
	aWrap      = 16
	aUnwrap    = 17
	aDerive    = 18
)

// kindsOf each class, as P210 tells them.
var kindsOf = map[byte][]int{
	data:    {1, 2, 3, 4, 5, 6, 7},
	secret:  {1, 2, 3, 4, 5, 6, 7, 8, 9, 10, 11, 12, 13, 14, 15, 16, 17},
	public:  {1, 2, 3, 4, 5, 6, 7, 14},
	private: {1, 2, 3, 4, 5, 6, 7, 8, 9, 10, 11, 12, 13, 18},
}

// sizesOf an AValue, of each class but data, as P210 tells them.
var sizesOf = map[byte][]int{secret: {16, 24, 32}, public: {32}, private: {32}}

func a(kind int, value ...byte) api.Attr { return api.Attr{Kind: kind, Value: value} }

func val(n int) api.Attr { return a(aValue, bytes.Repeat([]byte{7}, n)...) }

// find the Value of the first one of that kind, as P201's Get.
func find(l []api.Attr, kind int) ([]byte, bool) {
	i := slices.IndexFunc(l, func(x api.Attr) bool { return x.Kind == kind })
	if i < 0 {
		return nil, false
	}
	return l[i].Value, true
}

func is(l []api.Attr, kind int) bool {
	v, ok := find(l, kind)
	return ok && string(v) == "\x01"
}

func isZero(l []api.Attr, kind int) bool {
	v, ok := find(l, kind)
	return ok && string(v) == "\x00"
}

// mayBe: has P200 such a Value of such a Kind?
func mayBe(x api.Attr) bool {
	switch n := len(x.Value); x.Kind {
	case aClass:
		return n == 1 && x.Value[0] >= 1 && x.Value[0] <= 4
	case aLabel, aID:
		return n <= 32
	case aValue:
		return n <= 64
	default:
		return n == 1 && x.Value[0] <= 1
	}
}

// checked: l's error, as P200's Check tells it.
func checked(l []api.Attr) api.Errno {
	if len(l) > 24 {
		return large
	}
	for i, x := range l {
		if x.Kind < 1 || x.Kind > 18 {
			return wrong
		}
		if !mayBe(x) {
			return form
		}
		if _, ok := find(l[:i], x.Kind); ok {
			return arg
		}
	}
	return fine
}

func size(class byte, n int) bool { return class == data || slices.Contains(sizesOf[class], n) }

// isObject, as P210 tells it.
func isObject(l []api.Attr) bool {
	class, ok := find(l, aClass)
	if !ok || checked(l) != fine {
		return false
	}
	var kinds []int
	for _, x := range l {
		kinds = append(kinds, x.Kind)
	}
	v, _ := find(l, aValue)
	if !slices.Equal(kinds, kindsOf[class[0]]) || !size(class[0], len(v)) {
		return false
	}
	if is(l, aAlways) && !is(l, aSensitive) || is(l, aNever) && !isZero(l, aExtract) {
		return false
	}
	keys := is(l, aWrap) || is(l, aUnwrap)
	texts := is(l, aSign) || is(l, aVerify) || is(l, aCrypt)
	return !(keys && texts)
}

func isHidden(l []api.Attr) bool {
	v, ok := find(l, aExtract)
	return is(l, aSensitive) || ok && string(v) != "\x01"
}

// fresh Value of a kind, where P211's template does not have it.
func fresh(t []api.Attr, class byte, kind int, local bool) []byte {
	yes := false
	switch kind {
	case aLabel, aID:
		return nil
	case aPrivate:
		yes = class == secret || class == private
	case aModify, aExtract:
		yes = true
	case aLocal:
		yes = local
	case aAlways:
		yes = local && is(t, aSensitive)
	case aNever:
		yes = local && isZero(t, aExtract)
	}
	if yes {
		return []byte{1}
	}
	return []byte{0}
}

// made of t, as P211 tells it.
func made(t []api.Attr, local bool) ([]api.Attr, api.Errno) {
	if e := checked(t); e != fine {
		return nil, e
	}
	class, ok := find(t, aClass)
	if !ok {
		return nil, arg
	}
	for _, x := range t {
		if !slices.Contains(kindsOf[class[0]], x.Kind) {
			return nil, wrong
		}
		if x.Kind == 10 || x.Kind == 11 || x.Kind == 12 {
			return nil, denied
		}
	}
	v, ok := find(t, aValue)
	if !ok {
		return nil, short
	}
	if !size(class[0], len(v)) {
		return nil, form
	}
	var l []api.Attr
	for _, kind := range kindsOf[class[0]] {
		v, ok := find(t, kind)
		if !ok {
			v = fresh(t, class[0], kind, local)
		}
		l = append(l, a(kind, v...))
	}
	if !isObject(l) {
		return nil, denied
	}
	return l, fine
}

// refused: is x one that P212 does not let be set over l?
func refused(l []api.Attr, x api.Attr, copied bool) bool {
	one := string(x.Value) == "\x01"
	switch x.Kind {
	case aClass, aValue, aAlways, aNever, aLocal:
		return true
	case aToken:
		return !copied
	case aPrivate:
		return !copied || is(l, aPrivate) && !one
	case aSensitive:
		return is(l, aSensitive) && !one
	case aExtract:
		return isZero(l, aExtract) && one
	}
	return false
}

// changed: l by t, as P212 tells it, of Change or of Copy.
func changed(l, t []api.Attr, copied bool) ([]api.Attr, api.Errno) {
	if !isObject(l) {
		return nil, arg
	}
	if e := checked(t); e != fine {
		return nil, e
	}
	if !copied && isZero(l, aModify) {
		return nil, denied
	}
	for _, x := range t {
		if _, ok := find(l, x.Kind); !ok {
			return nil, wrong
		}
		if refused(l, x, copied) {
			return nil, denied
		}
	}
	m := slices.Clone(l)
	for i := range m {
		if v, ok := find(t, m[i].Kind); ok {
			m[i].Value = v
		}
	}
	if !isObject(m) {
		return nil, denied
	}
	return m, fine
}

// seen, as P213 tells it.
func seen(l []api.Attr, kind int) ([]byte, api.Errno) {
	v, ok := find(l, kind)
	if !ok {
		return nil, wrong
	}
	if kind == aValue && isHidden(l) {
		return nil, denied
	}
	return v, fine
}

// allowed, as P213 tells it.
func allowed(l []api.Attr, use int) api.Errno {
	v, ok := find(l, use)
	if use < 13 || use > 18 || !ok {
		return wrong
	}
	if string(v) != "\x01" {
		return denied
	}
	return fine
}

// same attributes, in the same order?
func same(l, m []api.Attr) bool {
	return slices.EqualFunc(l, m, func(x, y api.Attr) bool { return x.Kind == y.Kind && bytes.Equal(x.Value, y.Value) })
}

// flagsOf a class: its kinds of 0 or 1.
func flagsOf(class byte) []int {
	return slices.DeleteFunc(slices.Clone(kindsOf[class]), func(kind int) bool { return kind < aToken })
}

// built: a list of that class's kinds, rising, its flags by the bits of n.
func built(class byte, bytes, n int) []api.Attr {
	l := []api.Attr{a(aClass, class), a(aLabel, 'l'), a(aID), val(bytes)}
	for i, kind := range flagsOf(class) {
		l = append(l, a(kind, byte(n>>i&1)))
	}
	return l
}

// usable: an object of each class, all of whose flags are 0 but AModify.
func usable(class byte) []api.Attr { return with(built(class, 32, 0), a(aModify, 1)) }

// with: l, but of these kinds with these Values.
func with(l []api.Attr, more ...api.Attr) []api.Attr {
	l = slices.Clone(l)
	for _, x := range more {
		l[slices.IndexFunc(l, func(y api.Attr) bool { return y.Kind == x.Kind })] = x
	}
	return l
}

func holdValid(t *testing.T, l []api.Attr) bool {
	t.Helper()
	got := rule.Valid(l)
	if got != isObject(l) {
		t.Fatal("Valid", l, got)
	}
	return got
}

func holdHidden(t *testing.T, l []api.Attr) bool {
	t.Helper()
	got := rule.Hidden(l)
	if got != isHidden(l) {
		t.Fatal("Hidden", l, got)
	}
	return got
}

func holdMake(t *testing.T, l []api.Attr, local bool) api.Errno {
	t.Helper()
	got, e := rule.Make(l, local)
	want, f := made(l, local)
	if e != f || !same(got, want) || e == fine && !rule.Valid(got) {
		t.Fatal("Make", l, local, got, e, want, f)
	}
	return e
}

// holdBoth calls, and tell what they told.
func holdBoth(t *testing.T, l, m []api.Attr) (change, copied api.Errno) {
	t.Helper()
	got, e := rule.Change(l, m)
	want, f := changed(l, m, false)
	if e != f || !same(got, want) || e == fine && !rule.Valid(got) {
		t.Fatal("Change", l, m, got, e, want, f)
	}
	got, g := rule.Copy(l, m)
	want, f = changed(l, m, true)
	if g != f || !same(got, want) || g == fine && !rule.Valid(got) {
		t.Fatal("Copy", l, m, got, g, want, f)
	}
	return e, g
}

func holdSee(t *testing.T, l []api.Attr, kind int) api.Errno {
	t.Helper()
	got, e := rule.See(l, kind)
	want, f := seen(l, kind)
	if e != f || !bytes.Equal(got, want) {
		t.Fatal("See", l, kind, got, e, want, f)
	}
	return e
}

func holdMay(t *testing.T, l []api.Attr, use int) api.Errno {
	t.Helper()
	e := rule.May(l, use)
	if e != allowed(l, use) {
		t.Fatal("May", l, use, e)
	}
	return e
}

func TestP210Kinds(t *testing.T) {
	for class := range 256 {
		if got := rule.Kinds(byte(class)); !slices.Equal(got, kindsOf[byte(class)]) {
			t.Error(class, got)
		}
	}
}

// Each combination of flags, of each class.
func TestP210ValidFlags(t *testing.T) {
	// AToken, APrivate, AModify and ALocal are any; of ASensitive and AAlways three pairs may be, and so of AExtract and ANever; of a secret key's uses those of one side (4) and those of the other (8), where none at all are told twice.
	for class, want := range map[byte]int{data: 8, secret: 16 * 3 * 3 * 11, public: 16, private: 16 * 3 * 3 * 4} {
		count := 0
		for n := range 1 << len(flagsOf(class)) {
			if holdValid(t, built(class, 32, n)) {
				count++
			}
		}
		if count != want {
			t.Error(class, count, want)
		}
	}
}

// Each number of bytes of an AValue, and more than may be.
func TestP210ValidSizes(t *testing.T) {
	for class := range kindsOf {
		for n := range 100 {
			want := n <= 64 && (class == data || n == 32 || class == secret && (n == 16 || n == 24))
			if got := holdValid(t, built(class, n, 0)); got != want {
				t.Error(class, n, got)
			}
		}
	}
}

// Objects with one thing wrong.
func TestP210ValidWrong(t *testing.T) {
	for _, l := range [][]api.Attr{nil, {}, {a(0)}, {a(aClass)}, {a(aClass, 2, 2)}, {a(aClass, 0)}, {a(aClass, 5)}, {a(aLabel)}, {val(32)}} {
		if holdValid(t, l) {
			t.Error(l)
		}
	}
	for class, kinds := range kindsOf {
		l := usable(class)
		if !holdValid(t, l) {
			t.Error(class)
		}
		for i := range l {
			if holdValid(t, slices.Delete(slices.Clone(l), i, i+1)) || holdValid(t, l[:i]) || holdValid(t, l[i+1:]) {
				t.Error("less", class, i)
			}
			for j := range l {
				m := slices.Clone(l)
				m[i], m[j] = m[j], m[i]
				if holdValid(t, m) != (i == j) {
					t.Error("order", class, i, j)
				}
				if holdValid(t, slices.Insert(slices.Clone(l), j, l[i])) {
					t.Error("twice", class, i, j)
				}
			}
		}
		for kind := -3; kind < 30; kind++ {
			for at := range len(l) + 1 {
				if holdValid(t, slices.Insert(slices.Clone(l), at, a(kind, 1))) {
					t.Error("more", class, kind, at)
				}
			}
			for i := range l {
				m := slices.Clone(l)
				m[i].Kind = kind
				if holdValid(t, m) != (kind == kinds[i]) {
					t.Error("other", class, kind, i)
				}
			}
		}
	}
}

// Each one byte as each Value, and others that are none of their kind's.
func TestP210ValidValues(t *testing.T) {
	for class := range kindsOf {
		for i := range usable(class) {
			for b := range 256 {
				l := usable(class)
				l[i].Value = []byte{byte(b)}
				holdValid(t, l)
				l[i].Value = []byte{byte(b), 1}
				holdValid(t, l)
				l[i].Value = make([]byte, b)
				holdValid(t, l)
			}
			l := usable(class)
			l[i].Value = nil
			holdValid(t, l)
		}
	}
}

// Hidden of any list: each Value of the two, none of them, and two of one kind.
func TestP210Hidden(t *testing.T) {
	values := [][]byte{nil, {0}, {1}, {2}, {255}, {1, 1}, {0, 1}, {1, 0}, make([]byte, 40)}
	some := [][]api.Attr{nil}
	for _, kind := range []int{aSensitive, aExtract} {
		for _, v := range values {
			some = append(some, []api.Attr{a(kind, v...)})
		}
	}
	count := [2]int{}
	for _, l := range some {
		for _, m := range some {
			for _, n := range some {
				all := slices.Concat(l, []api.Attr{a(99, 1)}, m, []api.Attr{val(3)}, n)
				if holdHidden(t, all) {
					count[1]++
				} else {
					count[0]++
				}
			}
		}
	}
	if min(count[0], count[1]) < 100 {
		t.Error(count)
	}
	for class := range kindsOf {
		for n := range 1 << len(flagsOf(class)) {
			l := built(class, 32, n)
			if got := holdHidden(t, l); got && class != secret && class != private {
				t.Error(l)
			}
		}
	}
}

// Templates of each class with each choice of some flags: not there, 0 or 1.
func TestP211MakeFlags(t *testing.T) {
	for class, kinds := range kindsOf {
		for _, some := range [][]int{{5, 6, 7, 8, 9}, {8, 9, 13, 14, 15, 16, 17}, {6, 13, 18}} {
			some = slices.DeleteFunc(some, func(kind int) bool { return !slices.Contains(kinds, kind) })
			count := 1
			for range some {
				count *= 3
			}
			for n := range count {
				l := []api.Attr{val(32), a(aClass, class)}
				for _, kind := range some {
					if n%3 < 2 {
						l = append(l, a(kind, byte(n%3)))
					}
					n /= 3
				}
				holdMake(t, l, false)
				holdMake(t, l, true)
			}
		}
	}
}

// What a template does not have, by the document's own words.
func TestP211Defaults(t *testing.T) {
	for class := range kindsOf {
		for _, local := range []bool{false, true} {
			l, e := rule.Make([]api.Attr{a(aClass, class), val(32)}, local)
			if e != fine || !rule.Valid(l) {
				t.Fatal(class, e)
			}
			hidden := class == secret || class == private
			for _, x := range l {
				want := []byte{0}
				switch {
				case x.Kind == aClass:
					want = []byte{class}
				case x.Kind == aLabel || x.Kind == aID:
					want = nil
				case x.Kind == aValue:
					want = val(32).Value
				case x.Kind == aModify || x.Kind == aExtract || x.Kind == aPrivate && hidden || x.Kind == aLocal && local:
					want = []byte{1}
				}
				if !bytes.Equal(x.Value, want) {
					t.Error(class, local, x)
				}
			}
		}
	}
	for _, c := range []struct {
		sensitive, extract []byte
		always, never      bool
	}{
		{nil, nil, false, false},
		{[]byte{0}, []byte{1}, false, false},
		{[]byte{1}, nil, true, false},
		{nil, []byte{0}, false, true},
		{[]byte{1}, []byte{0}, true, true},
	} {
		m := []api.Attr{a(aClass, private), val(32)}
		if c.sensitive != nil {
			m = append(m, a(aSensitive, c.sensitive...))
		}
		if c.extract != nil {
			m = append(m, a(aExtract, c.extract...))
		}
		here, e := rule.Make(m, true)
		far, f := rule.Make(m, false)
		if e != fine || f != fine || is(here, aAlways) != c.always || is(here, aNever) != c.never || !is(here, aLocal) || is(far, aAlways) || is(far, aNever) || is(far, aLocal) {
			t.Error(c, here, far)
		}
	}
}

// Each number of bytes, of each class.
func TestP211Sizes(t *testing.T) {
	for class := range kindsOf {
		for n := range 100 {
			want := api.Errno(form)
			if n <= 64 && (class == data || n == 32 || class == secret && (n == 16 || n == 24)) {
				want = fine
			}
			if e := holdMake(t, []api.Attr{a(aClass, class), val(n)}, n%2 > 0); e != want {
				t.Error(class, n, e)
			}
		}
	}
}

// Each attribute beside what a template needs, in each place.
func TestP211Each(t *testing.T) {
	for class := range kindsOf {
		for kind := -3; kind < 30; kind++ {
			for _, v := range [][]byte{nil, {0}, {1}, {2}, {4}, {5}, {1, 1}, make([]byte, 16), make([]byte, 32), make([]byte, 33), make([]byte, 64), make([]byte, 65)} {
				base := []api.Attr{a(aClass, class), val(32)}
				for at := range 3 {
					holdMake(t, slices.Insert(slices.Clone(base), at, a(kind, v...)), at > 0)
				}
				holdMake(t, []api.Attr{a(kind, v...), a(aClass, class)}, true)
				holdMake(t, []api.Attr{a(kind, v...), val(16)}, true)
				holdMake(t, []api.Attr{a(kind, v...)}, true)
			}
		}
	}
}

// Which error comes ahead of which.
func TestP211Order(t *testing.T) {
	twice := slices.Repeat([]api.Attr{a(aLabel)}, 25)
	for i, c := range []struct {
		l    []api.Attr
		want api.Errno
	}{
		{twice, large},
		{twice[:24], arg},
		{[]api.Attr{a(aClass, 9), a(99)}, form},
		{[]api.Attr{a(99), a(aClass, 9)}, wrong},
		{[]api.Attr{a(aLocal, 1), a(aLocal, 1)}, arg},
		{[]api.Attr{a(aLocal, 1), a(aLocal, 2)}, form},
		{[]api.Attr{a(aLocal, 1), a(aDerive, 1), val(17)}, arg},
		{[]api.Attr{a(aDerive, 1), a(aLocal, 1), a(aClass, secret), val(17)}, wrong},
		{[]api.Attr{a(aLocal, 1), a(aDerive, 1), a(aClass, secret), val(17)}, denied},
		{[]api.Attr{a(aClass, secret), val(17), a(aNever, 0), a(aDerive, 1)}, denied},
		{[]api.Attr{a(aClass, secret), a(aAlways, 0)}, denied},
		{[]api.Attr{a(aClass, secret), a(aDerive, 0)}, wrong},
		{[]api.Attr{a(aClass, public), a(aAlways, 0)}, wrong},
		{[]api.Attr{a(aClass, data), a(aLocal, 0)}, wrong},
		{[]api.Attr{a(aClass, secret), a(aWrap, 1), a(aSign, 1)}, short},
		{[]api.Attr{a(aClass, secret), a(aWrap, 1), a(aSign, 1), val(17)}, form},
		{[]api.Attr{a(aClass, secret), a(aWrap, 1), a(aSign, 1), val(24)}, denied},
		{[]api.Attr{a(aClass, secret), val(65), a(aLocal, 1)}, form},
		{[]api.Attr{a(aClass, secret)}, short},
		{[]api.Attr{a(aClass, data)}, short},
		{[]api.Attr{a(aClass, data), a(aValue)}, fine},
		{nil, arg},
		{[]api.Attr{a(99)}, wrong},
	} {
		for _, local := range []bool{false, true} {
			if e := holdMake(t, c.l, local); e != c.want {
				t.Error(i, e, c.want)
			}
		}
	}
}

// Each pair of uses, in Make, Change and Copy.
func TestP211Sides(t *testing.T) {
	uses := []int{aSign, aVerify, aCrypt, aWrap, aUnwrap}
	for _, x := range uses {
		for _, y := range uses {
			want := api.Errno(fine)
			if (x < aWrap) != (y < aWrap) {
				want = denied
			}
			l := []api.Attr{a(aClass, secret), val(16), a(x, 1)}
			if x != y {
				l = append(l, a(y, 1))
			}
			if e := holdMake(t, l, false); e != want {
				t.Error(x, y, e)
			}
			m := with(usable(secret), a(x, 1))
			if e, f := holdBoth(t, m, []api.Attr{a(y, 1)}); e != want || f != want {
				t.Error(x, y, e, f)
			}
			if x == y {
				continue
			}
			if e, f := holdBoth(t, m, []api.Attr{a(y, 1), a(x, 0)}); e != fine || f != fine {
				t.Error(x, y, e, f)
			}
			if e, f := holdBoth(t, usable(secret), []api.Attr{a(y, 1), a(x, 1)}); e != want || f != want {
				t.Error(x, y, e, f)
			}
		}
	}
}

// drawnAttr: one of a kind that mostly is, with a Value that mostly may be.
func drawnAttr(r *rand.Rand, odd int) api.Attr {
	kind := 1 + r.IntN(18)
	if r.IntN(odd) == 0 {
		kind = r.IntN(40) - 10
	}
	var v []byte
	switch kind {
	case aClass:
		v = []byte{byte(1 + r.IntN(4))}
	case aLabel, aID:
		v = make([]byte, r.IntN(33))
	case aValue:
		v = make([]byte, []int{0, 16, 24, 32, 32, 32, r.IntN(65)}[r.IntN(7)])
	default:
		v = []byte{byte(r.IntN(2))}
	}
	if r.IntN(odd) == 0 {
		v = make([]byte, r.IntN(70))
	}
	for i := range v {
		if len(v) > 1 {
			v[i] = byte(r.Uint32())
		}
	}
	return a(kind, v...)
}

// drawnTemplate: up to n attributes, mostly of the class's kinds and mostly none twice.
func drawnTemplate(r *rand.Rand, class byte, n, odd int) []api.Attr {
	var l []api.Attr
	for range r.IntN(n + 1) {
		x := drawnAttr(r, odd)
		if _, twice := find(l, x.Kind); (twice || !slices.Contains(kindsOf[class], x.Kind)) && r.IntN(odd) > 0 {
			continue
		}
		l = append(l, x)
	}
	return l
}

func TestP211Drawn(t *testing.T) {
	r := rand.New(rand.NewPCG(21, 211))
	count := map[api.Errno]int{}
	for range 60000 {
		class := byte(1 + r.IntN(4))
		l := drawnTemplate(r, class, 10, 20)
		l = slices.DeleteFunc(l, func(x api.Attr) bool { return (x.Kind == aClass || x.Kind == aValue) && r.IntN(20) > 0 })
		l = slices.DeleteFunc(l, func(x api.Attr) bool { return x.Kind >= aAlways && x.Kind <= aLocal && r.IntN(8) > 0 })
		if r.IntN(20) > 0 {
			l = slices.Insert(l, r.IntN(len(l)+1), a(aClass, class))
		}
		if r.IntN(10) > 0 {
			l = slices.Insert(l, r.IntN(len(l)+1), val([]int{16, 24, 32, 32, 32, r.IntN(66)}[r.IntN(6)]))
		}
		count[holdMake(t, l, r.IntN(2) > 0)]++
	}
	for _, e := range []api.Errno{fine, arg, wrong, denied, short, form} {
		if count[e] < 300 {
			t.Error(e, count[e])
		}
	}
}

// someObject, drawn.
func someObject(r *rand.Rand, class byte) []api.Attr {
	for {
		n := 32
		if class == secret {
			n = []int{16, 24, 32}[r.IntN(3)]
		}
		if l := built(class, n, r.IntN(1<<len(flagsOf(class)))); isObject(l) {
			return l
		}
	}
}

// Each attribute alone over each object whose other flags are all 0 or as they may be.
func TestP212Each(t *testing.T) {
	values := [][]byte{nil, {0}, {1}, {2}, {3}, {4}, {1, 1}, make([]byte, 16), make([]byte, 32), make([]byte, 33), make([]byte, 65)}
	for class := range kindsOf {
		for n := range 1 << min(5, len(flagsOf(class))) {
			l := built(class, 32, n)
			for kind := -2; kind < 22; kind++ {
				for _, v := range values {
					holdBoth(t, l, []api.Attr{a(kind, v...)})
				}
			}
		}
	}
}

// The two ways of what is guarded, held without the test's own sums.
func TestP212Guarded(t *testing.T) {
	for class := range kindsOf {
		for _, c := range []struct {
			kind         int
			was, is      byte
			change, copy api.Errno
		}{
			{aSensitive, 1, 0, denied, denied},
			{aSensitive, 1, 1, fine, fine},
			{aSensitive, 0, 1, fine, fine},
			{aSensitive, 0, 0, fine, fine},
			{aExtract, 0, 1, denied, denied},
			{aExtract, 0, 0, fine, fine},
			{aExtract, 1, 0, fine, fine},
			{aExtract, 1, 1, fine, fine},
			{aPrivate, 1, 0, denied, denied},
			{aPrivate, 1, 1, denied, fine},
			{aPrivate, 0, 1, denied, fine},
			{aPrivate, 0, 0, denied, fine},
			{aToken, 1, 0, denied, fine},
			{aToken, 1, 1, denied, fine},
			{aToken, 0, 1, denied, fine},
			{aToken, 0, 0, denied, fine},
			{aModify, 1, 0, fine, fine},
			{aModify, 1, 1, fine, fine},
			{aModify, 0, 1, denied, fine},
			{aModify, 0, 0, denied, fine},
			{aLocal, 1, 1, denied, denied},
			{aLocal, 0, 0, denied, denied},
			{aAlways, 0, 0, denied, denied},
			{aNever, 0, 0, denied, denied},
			{aSign, 0, 1, fine, fine},
			{aSign, 1, 0, fine, fine},
			{aDerive, 0, 1, fine, fine},
			{aVerify, 1, 0, fine, fine},
			{aClass, class, class, denied, denied},
		} {
			if !slices.Contains(kindsOf[class], c.kind) {
				c.change, c.copy = wrong, wrong
			}
			l := usable(class)
			if c.change != wrong {
				l = with(l, a(c.kind, c.was))
			}
			if e, f := holdBoth(t, l, []api.Attr{a(c.kind, c.is)}); e != c.change || f != c.copy {
				t.Error(class, c, e, f)
			}
		}
		if e, f := holdBoth(t, usable(class), []api.Attr{val(32)}); e != denied || f != denied {
			t.Error("value", class, e, f)
		}
	}
}

// Which error comes ahead of which.
func TestP212Order(t *testing.T) {
	open := with(usable(secret), a(aSensitive, 1))
	shut := with(open, a(aModify, 0))
	none := open[1:]
	both := []api.Attr{a(aLabel), a(aLabel)}
	for i, c := range []struct {
		l, t         []api.Attr
		change, copy api.Errno
	}{
		{none, nil, arg, arg},
		{nil, nil, arg, arg},
		{none, []api.Attr{a(99)}, arg, arg},
		{none, slices.Repeat(both, 20), arg, arg},
		{shut, slices.Repeat(both, 20), large, large},
		{shut, []api.Attr{a(99)}, wrong, wrong},
		{shut, []api.Attr{a(aLocal, 2)}, form, form},
		{shut, both, arg, arg},
		{shut, nil, denied, fine},
		{shut, []api.Attr{a(aDerive, 1)}, denied, wrong},
		{shut, []api.Attr{a(aModify, 1)}, denied, fine},
		{open, nil, fine, fine},
		{open, []api.Attr{a(aDerive, 1), a(aLocal, 1)}, wrong, wrong},
		{open, []api.Attr{a(aLocal, 1), a(aDerive, 1)}, denied, denied},
		{open, []api.Attr{a(aSensitive, 0), a(aDerive, 1)}, denied, denied},
		{open, []api.Attr{a(aDerive, 1), a(aSensitive, 0)}, wrong, wrong},
		{open, []api.Attr{a(aWrap, 1), a(aSign, 1), a(aDerive, 1)}, wrong, wrong},
		{open, []api.Attr{a(aWrap, 1), a(aSign, 1)}, denied, denied},
		{open, []api.Attr{a(aToken, 0), a(99)}, wrong, wrong},
		{open, []api.Attr{a(aToken, 0), a(aLabel, make([]byte, 33)...)}, form, form},
		{open, []api.Attr{a(aUnwrap, 1), a(aID, 1), a(aLabel, 2), a(aWrap, 1)}, fine, fine},
	} {
		if e, f := holdBoth(t, c.l, c.t); e != c.change || f != c.copy {
			t.Error(i, e, f)
		}
	}
}

func TestP212Drawn(t *testing.T) {
	r := rand.New(rand.NewPCG(21, 212))
	var count [2]map[api.Errno]int
	count[0], count[1] = map[api.Errno]int{}, map[api.Errno]int{}
	for range 60000 {
		class := byte(1 + r.IntN(4))
		l := someObject(r, class)
		if r.IntN(3) > 0 {
			l = with(l, a(aModify, 1))
		}
		if r.IntN(20) == 0 {
			l = slices.Insert(l, r.IntN(len(l)+1), drawnAttr(r, 5))
		}
		m := drawnTemplate(r, class, 6, 20)
		m = slices.DeleteFunc(m, func(x api.Attr) bool {
			return slices.Contains([]int{aClass, aValue, aAlways, aNever, aLocal}, x.Kind) && r.IntN(8) > 0
		})
		e, f := holdBoth(t, l, m)
		count[0][e]++
		count[1][f]++
	}
	for _, e := range []api.Errno{fine, arg, form, wrong, denied} {
		if count[0][e] < 300 || count[1][e] < 300 {
			t.Error(e, count[0][e], count[1][e])
		}
	}
}

// However it is changed and copied, what is sensitive stays so, what can't be taken out stays so, what is private stays so, and whence it is and what it is worth do not change.
func TestP212Stays(t *testing.T) {
	r := rand.New(rand.NewPCG(21, 2120))
	steps := 0
	for range 300 {
		l := someObject(r, byte(1+r.IntN(4)))
		for range 60 {
			one := drawnTemplate(r, l[0].Value[0], 4, 1000)
			call := rule.Copy
			if r.IntN(2) > 0 {
				call = rule.Change
			}
			m, e := call(l, one)
			if e != fine {
				continue
			}
			steps++
			for _, kind := range []int{aClass, aValue, aAlways, aNever, aLocal} {
				v, ok := find(l, kind)
				w, still := find(m, kind)
				if ok != still || !bytes.Equal(v, w) {
					t.Fatal(kind, l, m)
				}
			}
			if is(l, aSensitive) && !is(m, aSensitive) || isZero(l, aExtract) && !isZero(m, aExtract) || is(l, aPrivate) && !is(m, aPrivate) || rule.Hidden(l) && !rule.Hidden(m) {
				t.Fatal(l, m)
			}
			l = m
		}
	}
	if steps < 3000 {
		t.Error(steps)
	}
}

// Each kind, of each object.
func TestP213SeeObjects(t *testing.T) {
	for class, kinds := range kindsOf {
		for n := range 1 << min(7, len(flagsOf(class))) {
			l := built(class, 32, n)
			hidden := class%2 == 0 && (is(l, aSensitive) || !is(l, aExtract))
			for kind := -5; kind < 30; kind++ {
				want := api.Errno(fine)
				if !slices.Contains(kinds, kind) {
					want = wrong
				} else if kind == aValue && hidden {
					want = denied
				}
				if e := holdSee(t, l, kind); e != want {
					t.Error(l, kind, e)
				}
			}
		}
	}
}

// Each use, of each object.
func TestP213MayObjects(t *testing.T) {
	for class, kinds := range kindsOf {
		for n := range 1 << len(flagsOf(class)) {
			l := built(class, 32, n)
			for use := range 25 {
				want := api.Errno(denied)
				if use < 13 || !slices.Contains(kinds, use) {
					want = wrong
				} else if is(l, use) {
					want = fine
				}
				if e := holdMay(t, l, use); e != want {
					t.Error(l, use, e)
				}
			}
		}
	}
}

// Lists that are no objects: kinds that are none, Values that are none, two of one kind, none at all, more than may be.
func TestP213Any(t *testing.T) {
	r := rand.New(rand.NewPCG(21, 213))
	seen, used := map[api.Errno]int{}, map[api.Errno]int{}
	for range 20000 {
		var l []api.Attr
		for range r.IntN(30) {
			l = append(l, drawnAttr(r, 3))
		}
		holdHidden(t, l)
		holdValid(t, l)
		kind := r.IntN(26) - 3
		if r.IntN(3) == 0 {
			kind = aValue
		}
		seen[holdSee(t, l, kind)]++
		used[holdMay(t, l, kind)]++
		used[holdMay(t, l, 13+r.IntN(6))]++
	}
	for _, e := range []api.Errno{fine, wrong, denied} {
		if seen[e] < 300 || used[e] < 300 {
			t.Error(e, seen[e], used[e])
		}
	}
	for _, v := range [][]byte{nil, {0}, {2}, {255}, {1, 1}, {0, 1}} {
		if e := rule.May([]api.Attr{a(aDerive, v...), a(aDerive, 1)}, aDerive); e != denied {
			t.Error(v, e)
		}
	}
	two := []api.Attr{val(3), a(aValue, 9), a(aExtract, 1), a(aSensitive)}
	if v, e := rule.See(two, aValue); e != fine || !bytes.Equal(v, val(3).Value) {
		t.Error(v, e)
	}
	far := []api.Attr{a(99, 1, 2), a(12, 1), a(19, 1), a(aExtract)}
	if v, e := rule.See(far, 99); e != fine || !bytes.Equal(v, []byte{1, 2}) {
		t.Error(v, e)
	}
	if rule.May(far, 12) != wrong || rule.May(far, 19) != wrong || rule.May(far, 99) != wrong {
		t.Error("no uses")
	}
}

// Kinds and lists far from any that may be.
func TestP1NoPanic(t *testing.T) {
	long := slices.Repeat([]api.Attr{a(aLabel, 1), a(aClass), a(aValue, make([]byte, 5000)...)}, 2000)
	lists := [][]api.Attr{nil, {}, {a(0)}, make([]api.Attr, 30), make([]api.Attr, 20), long, long[:24], long[1:3], long[2:4], {a(aClass)}, {a(aClass, 200)}, {a(math.MinInt), a(math.MaxInt)}, usable(secret), usable(data), usable(private)}
	for _, l := range lists {
		rule.Valid(l)
		rule.Hidden(l)
		holdMake(t, l, true)
		for _, m := range lists {
			holdBoth(t, l, m)
		}
		for _, kind := range []int{math.MinInt, -1, 0, 1, 4, 18, 19, 1 << 32, 1<<32 + 13, 1<<8 + 13, math.MaxInt} {
			holdSee(t, l, kind)
			holdMay(t, l, kind)
		}
	}
}

// roomy: l, with room behind it and behind each Value, and all of these as they lie in memory.
func roomy(l []api.Attr) (in []api.Attr, all []api.Attr, bodies [][]byte) {
	all = make([]api.Attr, len(l)+2)
	for i, x := range l {
		b := append(bytes.Clone(x.Value), 170, 187)
		bodies = append(bodies, b)
		all[i] = api.Attr{Kind: x.Kind, Value: b[:len(x.Value)]}
	}
	all[len(l)] = a(77, 1)
	return all[:len(l)], all, bodies
}

// answers of all calls: those of lists by themselves, others as lists of numbers.
func answers(l, m []api.Attr) (lists [][]api.Attr, rest []any) {
	for _, local := range []bool{false, true} {
		for _, t := range [][]api.Attr{l, m} {
			got, e := rule.Make(t, local)
			lists, rest = append(lists, got), append(rest, e)
		}
	}
	got, e := rule.Change(l, m)
	lists, rest = append(lists, got), append(rest, e)
	got, e = rule.Copy(l, m)
	lists, rest = append(lists, got), append(rest, e)
	rest = append(rest, rule.Valid(l), rule.Hidden(l))
	for kind := range 20 {
		v, e := rule.See(l, kind)
		rest = append(rest, bytes.Clone(v), e, rule.May(l, kind))
	}
	return lists, rest
}

// deep copy of lists.
func deep(lists [][]api.Attr) [][]api.Attr {
	var c [][]api.Attr
	for _, l := range lists {
		var m []api.Attr
		for _, x := range l {
			m = append(m, a(x.Kind, bytes.Clone(x.Value)...))
		}
		c = append(c, m)
	}
	return c
}

// spoil a list, with all room that it has.
func spoil(l []api.Attr) {
	for _, x := range l[:cap(l)] {
		for i := range x.Value[:cap(x.Value)] {
			x.Value[:cap(x.Value)][i] ^= 255
		}
	}
	clear(l[:cap(l)])
}

// What is handed in is left as it is, and what is answered is memory of its own.
func TestP2(t *testing.T) {
	lists := [][]api.Attr{
		with(usable(secret), a(aExtract, 1)),
		usable(private),
		usable(data),
		{a(aClass, secret), val(16), a(aID, 1, 2), a(aSign, 1)},
		{val(32), a(aClass, public)},
		{a(aID, 3, 4, 5), a(aLabel, 6)},
		{a(aLocal, 1)},
		nil,
	}
	for _, x := range lists {
		for _, y := range lists {
			l, lAll, lBodies := roomy(x)
			m, mAll, mBodies := roomy(y)
			before := deep([][]api.Attr{lAll, mAll})
			bodies := slices.Concat(lBodies, mBodies)
			want, rest := answers(l, m)
			for _, b := range bodies {
				if !bytes.Equal(b[len(b)-2:], []byte{170, 187}) {
					t.Fatal("room", x, y)
				}
			}
			if !same(lAll, before[0]) || !same(mAll, before[1]) {
				t.Fatal("changed", x, y)
			}
			kept := deep(want)
			got, other := answers(l, m)
			for _, z := range got {
				spoil(z)
			}
			for i := range want {
				if !same(want[i], kept[i]) {
					t.Fatal("shared", x, y)
				}
			}
			if !same(lAll, before[0]) || !same(mAll, before[1]) || !reflect.DeepEqual(rest, other) {
				t.Fatal("shared with what came in", x, y)
			}
			spoil(lAll)
			spoil(mAll)
			for i := range want {
				if !same(want[i], kept[i]) {
					t.Fatal("kept", x, y)
				}
			}
		}
	}
}

// No two parts of an answer share memory.
func TestP2Parts(t *testing.T) {
	l, _ := rule.Make([]api.Attr{a(aClass, secret), val(32), a(aID, 1)}, true)
	m, _ := rule.Change(l, []api.Attr{a(aLabel, 5), a(aSign, 1)})
	n, _ := rule.Copy(l, []api.Attr{a(aLabel, 5), a(aSign, 1)})
	for _, x := range [][]api.Attr{l, m, n} {
		for i := range x {
			was := deep([][]api.Attr{x})[0]
			for j := range x[i].Value[:cap(x[i].Value)] {
				x[i].Value[:cap(x[i].Value)][j] ^= 1
			}
			for j := range x {
				if j != i && !bytes.Equal(x[j].Value, was[j].Value) {
					t.Fatal(i, j)
				}
			}
		}
	}
}

// Lists of kinds and Values that were told may be changed by whoever asked.
func TestP2Told(t *testing.T) {
	for class, kinds := range kindsOf {
		got := rule.Kinds(class)
		clear(got[:cap(got)])
		if !slices.Equal(rule.Kinds(class), kinds) {
			t.Error(class)
		}
	}
	l := with(usable(public), a(aID, 1, 2, 3))
	for kind := 1; kind <= 7; kind++ {
		v, _ := rule.See(l, kind)
		was, _ := find(l, kind)
		keep := bytes.Clone(was)
		for i := range v[:cap(v)] {
			v[:cap(v)][i] ^= 255
		}
		if !bytes.Equal(was, keep) {
			t.Error(kind)
		}
	}
}

// With an error there is no list and no Value.
func TestP3(t *testing.T) {
	shut := with(usable(secret), a(aSensitive, 1), a(aModify, 0))
	if l, e := rule.Make(nil, true); l != nil || e != arg {
		t.Error(l, e)
	}
	if l, e := rule.Make([]api.Attr{a(aClass, secret), val(16), a(aWrap, 1), a(aSign, 1)}, true); l != nil || e != denied {
		t.Error(l, e)
	}
	if l, e := rule.Change(shut, nil); l != nil || e != denied {
		t.Error(l, e)
	}
	if l, e := rule.Copy(shut, []api.Attr{a(aWrap, 1), a(aSign, 1)}); l != nil || e != denied {
		t.Error(l, e)
	}
	if l, e := rule.Copy(nil, nil); l != nil || e != arg {
		t.Error(l, e)
	}
	if v, e := rule.See(shut, aValue); v != nil || e != denied {
		t.Error(v, e)
	}
	if v, e := rule.See(shut, aDerive); v != nil || e != wrong {
		t.Error(v, e)
	}
}
