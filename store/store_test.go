package store_test

import (
	"bytes"
	"math"
	"math/rand/v2"
	"slices"
	"testing"

	"sealring/api"
	"sealring/store"
)

// The document's numbers, as it writes them, and not as package api or store has them.
const (
	fine = 0
	arg  = 1
	none = 6
	full = 7

	maxObjects = 16
	maxHandle  = 1073741824 // 2^30

	aClass     = 1
	aLabel     = 2
	aID        = 3
	aValue     = 4
	aSensitive = 8
	aExtract   = 9
)

func a(kind int, value ...byte) api.Attr { return api.Attr{Kind: kind, Value: value} }

func held(handle, owner int, l ...api.Attr) api.Held {
	return api.Held{Handle: handle, Owner: owner, Attrs: l}
}

// find the Value of the first one of that kind, as P201's Get.
func find(l []api.Attr, kind int) ([]byte, bool) {
	i := slices.IndexFunc(l, func(x api.Attr) bool { return x.Kind == kind })
	if i < 0 {
		return nil, false
	}
	return l[i].Value, true
}

// hidden, as P210 tells it.
func hidden(l []api.Attr) bool {
	s, _ := find(l, aSensitive)
	x, ok := find(l, aExtract)
	return string(s) == "\x01" || ok && string(x) != "\x01"
}

// matches, as P201's Match.
func matches(l, ask []api.Attr) bool {
	return !slices.ContainsFunc(ask, func(x api.Attr) bool {
		v, ok := find(l, x.Kind)
		return !ok || !bytes.Equal(v, x.Value)
	})
}

// model: a store as the document tells it, in a plain list.
type model struct {
	most, next int
	kept       []api.Held
}

// restored, as P220 tells it.
func restored(most, next int, l []api.Held) (*model, api.Errno) {
	if most < 1 || most > maxObjects || next < 1 || next > maxHandle {
		return nil, arg
	}
	for i, h := range l {
		if h.Handle < 1 || h.Handle > next-1 || i > 0 && h.Handle <= l[i-1].Handle {
			return nil, arg
		}
	}
	if len(l) > most {
		return nil, full
	}
	return &model{most, next, deep(l)}, fine
}

func (m *model) put(l []api.Attr, owner int) (int, api.Errno) {
	if len(m.kept) == m.most || m.next == maxHandle {
		return 0, full
	}
	m.kept = append(m.kept, deep([]api.Held{held(m.next, owner, l...)})...)
	m.next++
	return m.next - 1, fine
}

func (m *model) at(handle int) int {
	return slices.IndexFunc(m.kept, func(h api.Held) bool { return h.Handle == handle })
}

func (m *model) get(handle int) (api.Held, bool) {
	i := m.at(handle)
	if i < 0 {
		return api.Held{}, false
	}
	return m.kept[i], true
}

func (m *model) set(handle int, l []api.Attr) api.Errno {
	i := m.at(handle)
	if i < 0 {
		return none
	}
	m.kept[i] = deep([]api.Held{held(handle, m.kept[i].Owner, l...)})[0]
	return fine
}

func (m *model) drop(handle int) api.Errno {
	i := m.at(handle)
	if i < 0 {
		return none
	}
	m.kept = slices.Delete(m.kept, i, i+1)
	return fine
}

func (m *model) dropOf(owner int) int {
	n := len(m.kept)
	m.kept = slices.DeleteFunc(m.kept, func(h api.Held) bool { return h.Owner == owner })
	return n - len(m.kept)
}

func (m *model) find(ask []api.Attr) []int {
	_, value := find(ask, aValue)
	var handles []int
	for _, h := range m.kept {
		if matches(h.Attrs, ask) && !(value && hidden(h.Attrs)) {
			handles = append(handles, h.Handle)
		}
	}
	return handles
}

func sameAttrs(l, m []api.Attr) bool {
	return slices.EqualFunc(l, m, func(x, y api.Attr) bool { return x.Kind == y.Kind && bytes.Equal(x.Value, y.Value) })
}

func sameHeld(x, y api.Held) bool {
	return x.Handle == y.Handle && x.Owner == y.Owner && sameAttrs(x.Attrs, y.Attrs)
}

// deep copy, which shares nothing.
func deep(l []api.Held) []api.Held {
	var c []api.Held
	for _, h := range l {
		var m []api.Attr
		for _, x := range h.Attrs {
			m = append(m, a(x.Kind, bytes.Clone(x.Value)...))
		}
		c = append(c, held(h.Handle, h.Owner, m...))
	}
	return c
}

// hold all that s tells without a change against m.
func hold(t *testing.T, s *store.Store, m *model) {
	t.Helper()
	if got := s.Next(); got != m.next {
		t.Fatal("Next", got, m.next)
	}
	if got := s.List(); !slices.EqualFunc(got, m.kept, sameHeld) {
		t.Fatal("List", got, m.kept)
	}
	for _, h := range m.kept {
		holdGet(t, s, m, h.Handle)
		holdGet(t, s, m, h.Handle-1)
		holdGet(t, s, m, h.Handle+1)
	}
	holdGet(t, s, m, m.next)
	holdFind(t, s, m, nil)
}

func holdGet(t *testing.T, s *store.Store, m *model, handle int) bool {
	t.Helper()
	got, ok := s.Get(handle)
	want, is := m.get(handle)
	if ok != is || !sameHeld(got, want) || !ok && got.Attrs != nil {
		t.Fatal("Get", handle, got, ok, want, is)
	}
	return ok
}

func holdFind(t *testing.T, s *store.Store, m *model, ask []api.Attr) int {
	t.Helper()
	got, want := s.Find(ask), m.find(ask)
	if !slices.Equal(got, want) {
		t.Fatal("Find", ask, got, want)
	}
	return len(got)
}

// holdPut, and so on: the call upon both, and what it told.
func holdPut(t *testing.T, s *store.Store, m *model, l []api.Attr, owner int) api.Errno {
	t.Helper()
	got, e := s.Put(l, owner)
	if want, f := m.put(l, owner); got != want || e != f {
		t.Fatal("Put", l, owner, got, e, want, f)
	}
	return e
}

func holdSet(t *testing.T, s *store.Store, m *model, handle int, l []api.Attr) api.Errno {
	t.Helper()
	e := s.Set(handle, l)
	if f := m.set(handle, l); e != f {
		t.Fatal("Set", handle, l, e, f)
	}
	return e
}

func holdDrop(t *testing.T, s *store.Store, m *model, handle int) api.Errno {
	t.Helper()
	e := s.Drop(handle)
	if f := m.drop(handle); e != f {
		t.Fatal("Drop", handle, e, f)
	}
	return e
}

func holdDropOf(t *testing.T, s *store.Store, m *model, owner int) int {
	t.Helper()
	n := s.DropOf(owner)
	if want := m.dropOf(owner); n != want {
		t.Fatal("DropOf", owner, n, want)
	}
	return n
}

// both: a store, and the model that it is to be like.
func both(t *testing.T, most, next int, l []api.Held) (*store.Store, *model) {
	t.Helper()
	s, e := store.Restore(most, next, l)
	m, f := restored(most, next, l)
	if e != f || (s == nil) != (m == nil) {
		t.Fatal("Restore", most, next, l, s, e, f)
	}
	if s != nil {
		hold(t, s, m)
	}
	return s, m
}

func TestP220New(t *testing.T) {
	for most := -70; most <= 70; most++ {
		s, e := store.New(most)
		if most < 1 || most > 16 {
			if s != nil || e != arg {
				t.Error(most, s, e)
			}
			continue
		}
		if s == nil || e != fine || s.Next() != 1 || len(s.List()) != 0 || len(s.Find(nil)) != 0 {
			t.Fatal(most, s, e)
		}
		for i := range most {
			if h, e := s.Put([]api.Attr{a(aID, byte(i))}, i); h != i+1 || e != fine || s.Next() != i+2 {
				t.Error(most, i, h, e)
			}
		}
		if h, e := s.Put(nil, 0); h != 0 || e != full || s.Next() != most+1 || len(s.List()) != most {
			t.Error(most, h, e)
		}
	}
	for _, most := range []int{math.MinInt, math.MaxInt, 256 + 3, 1<<16 + 3, 1<<32 + 3, -1 << 40} {
		if s, e := store.New(most); s != nil || e != arg {
			t.Error(most, s, e)
		}
	}
}

// How many may be, and which handle is the next one: each edge of both, with as many objects as may be and one more.
func TestP220RestoreBounds(t *testing.T) {
	for _, most := range []int{math.MinInt, -1, 0, 1, 2, 3, 15, 16, 17, 18, 1<<32 + 1, math.MaxInt} {
		for _, next := range []int{math.MinInt, -1, 0, 1, 2, 3, 16, 17, 18, 19, maxHandle - 1, maxHandle, maxHandle + 1, 1<<32 + 5, math.MaxInt} {
			for n := range 20 {
				var l []api.Held
				for i := range n {
					l = append(l, held(i+1, -i, a(i)))
				}
				both(t, most, next, l)
			}
		}
	}
}

// Handles in all orders, of few and of far.
func TestP220RestoreHandles(t *testing.T) {
	some := []int{math.MinInt, -1, 0, 1, 2, 5, 6, 7, 8, 9, maxHandle - 1, maxHandle, maxHandle + 1, 1<<32 + 2, math.MaxInt}
	count := map[api.Errno]int{}
	for _, next := range []int{1, 2, 7, 8, maxHandle - 1, maxHandle} {
		for _, x := range some {
			both(t, 3, next, []api.Held{held(x, 4)})
			for _, y := range some {
				both(t, 3, next, []api.Held{held(x, 4), held(y, 4)})
				for _, z := range some {
					l := []api.Held{held(x, 4), held(y, 5), held(z, 4)}
					both(t, 3, next, l)
					_, e := store.Restore(2, next, l)
					count[e]++
					if _, f := restored(2, next, l); e != f {
						t.Fatal(next, l, e, f)
					}
				}
			}
		}
	}
	if count[arg] < 1000 || count[full] < 20 {
		t.Error(count)
	}
}

// Which error comes ahead of which, and what is kept.
func TestP220RestoreOrder(t *testing.T) {
	three := []api.Held{held(2, 0), held(3, 0), held(9, 0)}
	for i, c := range []struct {
		most, next int
		l          []api.Held
		want       api.Errno
	}{
		{2, 10, three, full},
		{2, 9, three, arg},
		{2, 0, three, arg},
		{2, maxHandle, three, full},
		{2, maxHandle + 1, three, arg},
		{0, 10, three, arg},
		{3, 10, three, fine},
		{3, 9, three, arg},
		{1, 10, []api.Held{held(3, 0), held(3, 0)}, arg},
		{1, 10, []api.Held{held(3, 0), held(2, 0)}, arg},
		{1, 10, []api.Held{held(2, 0), held(3, 0)}, full},
		{1, 10, []api.Held{held(2, 0), held(3, 0), held(0, 0)}, arg},
		{16, 1, nil, fine},
		{16, 1, []api.Held{}, fine},
		{16, 1, []api.Held{held(1, 0)}, arg},
		{16, 2, []api.Held{held(1, 0)}, fine},
	} {
		s, e := store.Restore(c.most, c.next, c.l)
		if e != c.want || (s == nil) != (e != fine) {
			t.Error(i, s, e)
		}
	}
	s, _ := store.Restore(3, 10, []api.Held{held(2, -7), held(3, math.MaxInt, a(99, 1, 2), a(99)), held(9, math.MinInt, a(aValue, 3))})
	if x, ok := s.Get(3); !ok || !sameHeld(x, held(3, math.MaxInt, a(99, 1, 2), a(99))) {
		t.Error(x, ok)
	}
	if h, e := s.Put(nil, 0); h != 0 || e != full || s.Next() != 10 {
		t.Error(h, e)
	}
	s.Drop(9)
	if h, e := s.Put(nil, 0); h != 10 || e != fine || s.Next() != 11 {
		t.Error(h, e)
	}
}

// The last handle is 2^30 - 1, behind which there is none, though there be room.
func TestP221PutLast(t *testing.T) {
	s, m := both(t, 5, maxHandle-2, nil)
	for i, want := range []api.Errno{fine, fine, full, full} {
		if e := holdPut(t, s, m, []api.Attr{a(aID, byte(i))}, i); e != want {
			t.Error(i, e)
		}
		hold(t, s, m)
	}
	if s.Next() != 1<<30 || len(s.List()) != 2 || s.List()[1].Handle != 1<<30-1 {
		t.Error(s.Next(), s.List())
	}
	holdDropOf(t, s, m, 0)
	holdDrop(t, s, m, maxHandle-1)
	if e := holdPut(t, s, m, nil, 0); e != full {
		t.Error(e)
	}
	hold(t, s, m)
}

// No handle comes twice, whatever is gone meanwhile.
func TestP221PutNever(t *testing.T) {
	s, m := both(t, 2, 1, nil)
	told := map[int]int{}
	for i := range 500 {
		h, e := s.Put(nil, i%3)
		if _, f := m.put(nil, i%3); e != f {
			t.Fatal(i, e, f)
		}
		if e == fine {
			told[h]++
		} else if i%4 > 1 {
			holdDropOf(t, s, m, i%3)
		} else {
			holdDrop(t, s, m, s.Next()-1)
		}
		hold(t, s, m)
	}
	if len(told) < 200 {
		t.Error(len(told))
	}
	for h, n := range told {
		if n != 1 {
			t.Error(h, n)
		}
	}
}

// A store with one of each small handle that is even, and each handle asked for.
func TestP221Handles(t *testing.T) {
	start := func() (*store.Store, *model) {
		return both(t, 6, 12, []api.Held{held(2, 1, a(aID, 2)), held(4, 2), held(6, 1, a(aID), a(aLabel, 6)), held(8, 0), held(10, -1, a(aValue, 1))})
	}
	handles := []int{math.MinInt, -2, maxHandle, 1<<32 + 2, 1<<8 + 2, math.MaxInt}
	for handle := -1; handle < 16; handle++ {
		handles = append(handles, handle)
	}
	for _, handle := range handles {
		there := handle >= 2 && handle <= 10 && handle%2 == 0
		want := api.Errno(none)
		if there {
			want = fine
		}
		s, m := start()
		if holdGet(t, s, m, handle) != there {
			t.Error("Get", handle)
		}
		if e := holdSet(t, s, m, handle, []api.Attr{a(77, 7, 7), a(77)}); e != want {
			t.Error("Set", handle, e)
		}
		hold(t, s, m)
		if e := holdSet(t, s, m, handle, nil); e != want {
			t.Error("Set nothing", handle, e)
		}
		hold(t, s, m)
		if e := holdDrop(t, s, m, handle); e != want {
			t.Error("Drop", handle, e)
		}
		hold(t, s, m)
		if e := holdDrop(t, s, m, handle); e != none {
			t.Error("Drop again", handle, e)
		}
		if e := holdSet(t, s, m, handle, nil); e != none {
			t.Error("Set again", handle, e)
		}
		hold(t, s, m)
		if e := holdPut(t, s, m, nil, 1); e != fine {
			t.Error("Put", handle, e)
		}
		hold(t, s, m)
	}
}

// Owners are any numbers: all of one are gone, and nobody else's.
func TestP221DropOf(t *testing.T) {
	owners := []int{math.MinInt, -1, 0, 1, 256, 1 << 32, 1<<32 + 1, math.MaxInt}
	for _, gone := range append(owners, 2, -2, 257) {
		for times := range 3 {
			s, m := both(t, 16, 1, nil)
			for range times {
				for _, owner := range owners {
					if e := holdPut(t, s, m, []api.Attr{a(aID, byte(owner))}, owner); e != fine {
						t.Fatal(e)
					}
				}
			}
			want := 0
			if slices.Contains(owners, gone) {
				want = times
			}
			if n := holdDropOf(t, s, m, gone); n != want {
				t.Error(gone, n)
			}
			hold(t, s, m)
			if n := holdDropOf(t, s, m, gone); n != 0 {
				t.Error(gone, n)
			}
			hold(t, s, m)
		}
	}
	s, m := both(t, 16, 1, nil)
	for range 16 {
		holdPut(t, s, m, nil, 3)
	}
	if n := holdDropOf(t, s, m, 3); n != 16 || len(s.List()) != 0 || s.Next() != 17 {
		t.Error(n)
	}
	holdPut(t, s, m, nil, 3)
	hold(t, s, m)
}

// All flags that hide, of objects with each of three Values: who asks for a Value never finds those.
func TestP222FindHidden(t *testing.T) {
	flags := [][]byte{nil, {}, {0}, {1}, {2}, {1, 1}}
	values := [][]byte{{}, {5}, {5, 5}}
	seen := [2]int{}
	for i, s := range flags {
		for j, x := range flags {
			l := []api.Attr{a(aID, 1)}
			if i > 0 {
				l = append(l, a(aSensitive, s...))
			}
			if j > 0 {
				l = append(l, a(aExtract, x...))
			}
			hides := i == 3 || j > 0 && j != 3
			st, m := both(t, 16, 1, nil)
			for _, v := range values {
				holdPut(t, st, m, append(slices.Clone(l), a(aValue, v...)), 0)
			}
			holdPut(t, st, m, l, 0)
			if n := holdFind(t, st, m, nil); n != 4 {
				t.Error(i, j, n)
			}
			if n := holdFind(t, st, m, l); n != 4 {
				t.Error(i, j, n)
			}
			for _, v := range append(values, []byte{6}) {
				n := holdFind(t, st, m, []api.Attr{a(aValue, v...)})
				n += holdFind(t, st, m, append(slices.Clone(l), a(aValue, v...)))
				n += holdFind(t, st, m, append([]api.Attr{a(aValue, v...)}, l...))
				if hides && n != 0 || !hides && v != nil && len(v) > 0 && v[0] == 5 && n != 3 {
					t.Error(i, j, v, n)
				}
			}
			if hides {
				seen[1]++
			} else {
				seen[0]++
			}
		}
	}
	if seen != [2]int{10, 26} {
		t.Error(seen)
	}
}

// Each byte tried as the first one of a Value that is hidden, beside one that is not.
func TestP222FindTries(t *testing.T) {
	s, m := both(t, 4, 1, nil)
	holdPut(t, s, m, []api.Attr{a(aValue, 200), a(aSensitive, 1), a(aExtract, 1)}, 0)
	holdPut(t, s, m, []api.Attr{a(aValue, 201), a(aSensitive, 0), a(aExtract, 0)}, 0)
	holdPut(t, s, m, []api.Attr{a(aValue, 202), a(aSensitive, 0), a(aExtract, 1)}, 0)
	for b := range 256 {
		var want []int
		if b == 202 {
			want = []int{3}
		}
		if got := s.Find([]api.Attr{a(aValue, byte(b))}); !slices.Equal(got, want) {
			t.Error(b, got)
		}
		if got := s.Find([]api.Attr{a(aSensitive, 1), a(aValue, byte(b))}); len(got) != 0 {
			t.Error(b, got)
		}
	}
}

// What is asked for may be any list: the first of a kind is what an object has, and all of ask are asked.
func TestP222FindAny(t *testing.T) {
	s, m := both(t, 16, 1, nil)
	lists := [][]api.Attr{nil, {a(1, 1)}, {a(1, 2)}, {a(1, 1), a(1, 2)}, {a(1, 2), a(1, 1)}, {a(2)}, {a(2, 0)}, {a(1, 1), a(2)}, {a(4, 1), a(4, 2)}, {a(4, 2), a(4, 1)}, {a(4)}, {a(-9, 1)}, {a(99)}, {a(4, 1), a(8, 1)}, {a(1, 1), a(4, 1), a(9, 1)}, {a(9, 1), a(9, 0), a(4, 1)}}
	for i, l := range lists {
		if e := holdPut(t, s, m, l, i%3); e != fine {
			t.Fatal(e)
		}
	}
	for _, x := range lists {
		for _, y := range lists {
			for _, z := range lists {
				holdFind(t, s, m, slices.Concat(x, y, z))
			}
		}
	}
	if got := s.Find([]api.Attr{a(4, 1)}); !slices.Equal(got, []int{9, 15, 16}) {
		t.Error(got)
	}
	if got := s.Find([]api.Attr{a(1, 1)}); !slices.Equal(got, []int{2, 4, 8, 15}) {
		t.Error(got)
	}
	if got := s.Find([]api.Attr{a(99)}); !slices.Equal(got, []int{13}) {
		t.Error(got)
	}
	if got := s.Find([]api.Attr{a(98)}); len(got) != 0 {
		t.Error(got)
	}
}

// Rising, from whatever handles on and whatever is gone, asked again and again.
func TestP222Rising(t *testing.T) {
	r := rand.New(rand.NewPCG(22, 222))
	for range 200 {
		var l []api.Held
		handle := 0
		for range 16 {
			handle += 1 + r.IntN(1<<r.IntN(26))
			l = append(l, held(handle, r.IntN(3), a(aID, byte(r.IntN(2)))))
		}
		s, m := both(t, 16, handle+1, l)
		for range 3 {
			holdFind(t, s, m, []api.Attr{a(aID, 1)})
			holdDrop(t, s, m, l[r.IntN(16)].Handle)
			hold(t, s, m)
			holdPut(t, s, m, []api.Attr{a(aID, 1)}, 0)
			hold(t, s, m)
		}
	}
}

// drawnList of few kinds and Values, so that some match.
func drawnList(r *rand.Rand, n int) []api.Attr {
	var l []api.Attr
	for range r.IntN(n + 1) {
		v := make([]byte, r.IntN(3))
		for i := range v {
			v[i] = byte(r.IntN(2))
		}
		l = append(l, a([]int{aID, aValue, aSensitive, aExtract, 99}[r.IntN(5)], v...))
	}
	return l
}

// Calls as they are drawn, held against the model.
func TestP221Drawn(t *testing.T) {
	r := rand.New(rand.NewPCG(22, 221))
	count, found := map[[2]int]int{}, 0
	for range 150 {
		s, m := both(t, 1+r.IntN(16), 1, nil)
		for range 150 {
			handle := s.Next() - r.IntN(20) + 1
			call := r.IntN(16)
			e := api.Errno(fine)
			switch {
			case call < 7:
				e = holdPut(t, s, m, drawnList(r, 6), r.IntN(4))
			case call < 10:
				e = holdSet(t, s, m, handle, drawnList(r, 6))
			case call < 12:
				e = holdDrop(t, s, m, handle)
			case call < 13:
				holdDropOf(t, s, m, r.IntN(8))
			case call < 14:
				s, m = both(t, 1+r.IntN(16), s.Next()+r.IntN(2), s.List())
				if s == nil {
					s, m = both(t, 16, 1, nil)
				}
			default:
				found += holdFind(t, s, m, drawnList(r, 2))
			}
			count[[2]int{call, int(e)}]++
			hold(t, s, m)
		}
	}
	for _, c := range [][2]int{{0, fine}, {0, full}, {7, fine}, {7, none}, {10, fine}, {10, none}} {
		if count[c] < 100 {
			t.Error(c, count)
		}
	}
	if found < 200 {
		t.Error(found)
	}
}

// Whatever is handed in, there is an answer.
func TestP1NoPanic(t *testing.T) {
	long := slices.Repeat([]api.Attr{a(aLabel, 1), a(aClass), a(aValue, make([]byte, 5000)...)}, 500)
	lists := [][]api.Attr{nil, {}, {a(0)}, make([]api.Attr, 30), long, {a(math.MinInt), a(math.MaxInt)}, {a(aSensitive), a(aExtract)}}
	numbers := []int{math.MinInt, -1, 0, 1, 2, 16, maxHandle, math.MaxInt}
	for _, n := range numbers {
		both(t, 16, n, make([]api.Held, 1000))
		both(t, n, 16, make([]api.Held, 1000))
	}
	s, m := both(t, 16, 1, nil)
	for _, l := range lists {
		holdPut(t, s, m, l, -1)
		for _, n := range numbers {
			holdGet(t, s, m, n)
			holdPut(t, s, m, l, n)
			holdSet(t, s, m, n, l)
			holdFind(t, s, m, l)
		}
		hold(t, s, m)
		for _, n := range numbers[1:] {
			holdDrop(t, s, m, n)
			holdDropOf(t, s, m, n)
		}
		hold(t, s, m)
	}
}

// roomy: l, as a piece of a longer list whose Values are pieces of longer ones.
func roomy(l []api.Attr) (in, all []api.Attr) {
	for _, x := range l {
		b := append(bytes.Clone(x.Value), 170, 187)
		all = append(all, api.Attr{Kind: x.Kind, Value: b[:len(x.Value)]})
	}
	all = append(all, a(77, 1), a(78, 2))
	return all[:len(l)], all
}

// spoil all that can be come by through l.
func spoil(l []api.Attr) {
	for _, x := range l[:cap(l)] {
		for i := range x.Value[:cap(x.Value)] {
			x.Value[:cap(x.Value)][i] ^= 255
		}
	}
	clear(l[:cap(l)])
}

func spoilHeld(l []api.Held) {
	for _, h := range l {
		spoil(h.Attrs)
	}
	clear(l[:cap(l)])
}

// intact: is all as roomy made it, of l?
func intact(all, l []api.Attr) bool {
	for i, x := range l {
		b := all[i].Value
		if all[i].Kind != x.Kind || !bytes.Equal(b, x.Value) || !bytes.Equal(b[:cap(b)][len(b):len(b)+2], []byte{170, 187}) {
			return false
		}
	}
	return sameAttrs(all[len(l):], []api.Attr{a(77, 1), a(78, 2)})
}

// What is handed in is not changed, and spoiling it later does not show.
func TestP2In(t *testing.T) {
	lists := [][]api.Attr{{a(aID, 1, 2, 3)}, {a(aValue), a(aLabel, 9), a(aID, 4)}, {a(aExtract, 1), a(aValue, 5, 6)}}
	for _, l := range lists {
		s, m := both(t, 4, 1, nil)
		in, all := roomy(l)
		holdPut(t, s, m, in, 2)
		more, allMore := roomy(l)
		holdPut(t, s, m, lists[0], 2)
		holdSet(t, s, m, 2, more)
		ask, allAsk := roomy(l)
		if n := holdFind(t, s, m, ask); n != 2 {
			t.Error(n)
		}
		back, allBack := roomy(l)
		other := []api.Held{held(3, 1, back...), held(4, 1), held(6, 6, a(99))}
		z, e := store.Restore(3, 5, other[:2])
		want, _ := restored(3, 5, other[:2])
		if e != fine {
			t.Fatal(e)
		}
		for _, x := range [][]api.Attr{all, allMore, allAsk, allBack} {
			if !intact(x, l) {
				t.Fatal("changed", l, x)
			}
			spoil(x)
		}
		if other[0].Handle != 3 || other[1].Handle != 4 || !sameHeld(other[2], held(6, 6, a(99))) {
			t.Fatal("changed", other)
		}
		spoilHeld(other)
		hold(t, s, m)
		hold(t, z, want)
	}
}

// What is answered is new memory: spoiling it does not show, in the store or in another answer.
func TestP2Out(t *testing.T) {
	s, m := both(t, 4, 1, nil)
	for i := range 4 {
		holdPut(t, s, m, []api.Attr{a(aID, 1, byte(i)), a(aLabel), a(aClass, 3)}, i)
	}
	ask := []api.Attr{a(aClass, 3)}
	one, _ := s.Get(2)
	list, other := s.List(), s.List()
	found, again := s.Find(ask), s.Find(ask)
	spoil(one.Attrs)
	spoil(list[1].Attrs)
	hold(t, s, m)
	if !sameHeld(list[0], m.kept[0]) || !sameHeld(list[2], m.kept[2]) || !slices.EqualFunc(other, m.kept, sameHeld) {
		t.Error("shared", list, other)
	}
	spoilHeld(list)
	clear(found[:cap(found)])
	hold(t, s, m)
	if !slices.EqualFunc(other, m.kept, sameHeld) || !slices.Equal(again, []int{1, 2, 3, 4}) {
		t.Error("shared", other, again)
	}
}

// One Value's memory handed in twice is two Values when it is kept, and those of a list that was told are not one.
func TestP2Parts(t *testing.T) {
	v := []byte{1, 2, 3}
	l := []api.Attr{{Kind: aID, Value: v}, {Kind: aLabel, Value: v}}
	s, m := both(t, 4, 1, nil)
	holdPut(t, s, m, l, 0)
	holdPut(t, s, m, l, 0)
	list := s.List()
	list[0].Attrs[0].Value[0] = 9
	if list[0].Attrs[1].Value[0] != 1 || list[1].Attrs[0].Value[0] != 1 || v[0] != 1 {
		t.Error(list, v)
	}
	room := list[0].Attrs[0].Value
	for i := range room[:cap(room)] {
		room[:cap(room)][i] = 9
	}
	if !sameAttrs(list[0].Attrs[1:], []api.Attr{a(aLabel, 1, 2, 3)}) {
		t.Error(list)
	}
	hold(t, s, m)
	z, e := store.Restore(4, 9, []api.Held{held(1, 0, l...), held(2, 0, l...)})
	if e != fine {
		t.Fatal(e)
	}
	x, _ := z.Get(1)
	spoil(x.Attrs)
	hold(t, z, &model{4, 9, []api.Held{held(1, 0, l...), held(2, 0, l...)}})
}

// Two stores know nothing of each other, though they were restored from one list.
func TestP2Apart(t *testing.T) {
	l := []api.Held{held(1, 5, a(aID, 1)), held(2, 6, a(aID, 2))}
	s, m := both(t, 3, 3, l)
	z, n := both(t, 4, 7, l)
	holdSet(t, s, m, 1, []api.Attr{a(aID, 9)})
	holdDrop(t, z, n, 2)
	holdPut(t, s, m, nil, 5)
	holdDropOf(t, z, n, 4)
	hold(t, s, m)
	hold(t, z, n)
	if s.Next() != 4 || z.Next() != 7 || len(s.List()) != 3 || len(z.List()) != 1 {
		t.Error(s.List(), z.List())
	}
}

// With an error nothing else is told, and nothing is changed.
func TestP3(t *testing.T) {
	s, m := both(t, 2, 8, []api.Held{held(3, 1, a(aID, 3)), held(7, 2, a(aValue, 7))})
	before := deep(s.List())
	for range 3 {
		if h, e := s.Put([]api.Attr{a(aID, 8)}, 1); h != 0 || e != full {
			t.Error(h, e)
		}
		if e := s.Set(8, []api.Attr{a(aID, 8)}); e != none {
			t.Error(e)
		}
		if e := s.Drop(4); e != none {
			t.Error(e)
		}
		if h, ok := s.Get(5); ok || h.Handle != 0 || h.Owner != 0 || h.Attrs != nil {
			t.Error(h, ok)
		}
		if n := s.DropOf(3); n != 0 {
			t.Error(n)
		}
		hold(t, s, m)
		if s.Next() != 8 || !slices.EqualFunc(s.List(), before, sameHeld) {
			t.Fatal(s.Next(), s.List())
		}
	}
}
