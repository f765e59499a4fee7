package draw

import (
	"testing"

	"sealring/api"
)

// These stand inside the package: of no seed that is known are MaxTries numbers too great, so they are told by hand.

// tooGreat for m at first, then x; and how often it was asked.
func tooGreat(often int, m, x api.Num) (func() api.Num, *int) {
	asked := new(int)
	return func() api.Num {
		*asked++
		if *asked <= often {
			return m
		}
		return x
	}, asked
}

func TestP82UpTo100Times(t *testing.T) {
	// Each needs all the bits of m, so that m itself is too great, and stays so modulo 2^n.
	for _, m := range []api.Num{{3}, {5}, {7}, {0, 3}, {1, 0, 0, 1 << 63}} {
		for often := range 103 {
			next, asked := tooGreat(often, m, api.Num{2})
			x, e := firstBelow(m, next)
			if often < 100 && (x != (api.Num{2}) || e != api.OK || *asked != often+1) {
				t.Errorf("%x, told %d times, then 2: %x, %d, asked %d times", m, often, x, e, *asked)
			}
			if often >= 100 && (x != (api.Num{}) || e != api.ErrNone || *asked != 100) {
				t.Errorf("%x, told %d times, then 2: %x, %d, asked %d times", m, often, x, e, *asked)
			}
		}
	}
}

// TestP82AsFewBits: a power of 2 takes what comes, as it is 0 modulo itself.
func TestP82AsFewBits(t *testing.T) {
	for k := range 256 {
		var m api.Num
		m[k/64] = 1 << (k % 64)
		next, asked := tooGreat(1, m, api.Num{})
		if x, e := firstBelow(m, next); x != (api.Num{}) || e != api.OK || *asked != 1 {
			t.Errorf("2^%d modulo itself: %x, %d, asked %d times", k, x, e, *asked)
		}
	}
}

// TestP82ThirtyTwoATry: each try draws 32 bytes, so that behind a hundred of them 3200 are drawn.
func TestP82ThirtyTwoATry(t *testing.T) {
	s := At([]byte("try"), 5)
	x, e := firstBelow(api.Num{3}, func() api.Num {
		s.number()
		return api.Num{3}
	})
	if x != (api.Num{}) || e != api.ErrNone || s.Place() != 3205 {
		t.Errorf("a hundred tries: %x, %d, then at %d", x, e, s.Place())
	}
}
