package sign

import (
	"testing"

	"sealring/api"
)

// This stands inside the package: no seed is known of which a digest is 0 modulo L.
func TestP170P171OneForNought(t *testing.T) {
	const most = 1<<64 - 1
	if got := orOne(api.Num{}); got != (api.Num{1}) {
		t.Errorf("orOne(0) = %x; want 1", got)
	}
	for i := range 256 {
		var a api.Num
		a[i/64] = 1 << (i % 64)
		if got := orOne(a); got != a {
			t.Errorf("orOne(%x) = %x", a, got)
		}
	}
	for _, a := range []api.Num{{2}, {3}, {most}, {0, 1, 1, 1}, {most, most, most, most}, {0, 0, 0, 1 << 60}} {
		if got := orOne(a); got != a {
			t.Errorf("orOne(%x) = %x", a, got)
		}
	}
}
