package share

import (
	"testing"

	"sealring/api"
)

// TestP190NextFails: what a source tells beside no number is the answer, wherever it comes, and nothing is drawn behind it.
func TestP190NextFails(t *testing.T) {
	for k := 1; k <= api.MaxShares; k++ {
		for fails := range k + 1 {
			asked := 0
			c, e := polynomial(api.Num{7}, k, func() (api.Num, api.Errno) {
				if asked++; asked > fails {
					return api.Num{}, api.ErrNone
				}
				return api.Num{uint64(100 * asked)}, api.OK
			})
			if fails < k-1 {
				if len(c) > 0 || e != api.ErrNone || asked != fails+1 {
					t.Errorf("of %d, drawn %d: %v, %d, asked %d times", k, fails, c, e, asked)
				}
				continue
			}
			if len(c) != k || e != api.OK || asked != k-1 || c[0] != (api.Num{7}) {
				t.Fatalf("of %d: %v, %d, asked %d times", k, c, e, asked)
			}
			for i := 1; i < k; i++ {
				if c[i] != (api.Num{uint64(100 * i)}) {
					t.Errorf("of %d: number %d is %v", k, i, c[i])
				}
			}
		}
	}
}
