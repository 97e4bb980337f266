package point_test

import (
	"bytes"
	"math/rand"
	"slices"
	"testing"

	"undercroft/api"
	"undercroft/disk"
	"undercroft/point"
)

// kept is what a crash keeps of n writes, by the bits of a number.
func kept(bits, n int) []bool {
	keep := make([]bool, n)
	for i := range keep {
		keep[i] = bits>>i&1 == 1
	}
	return keep
}

// halfway is d with a point put and not yet flushed.
func halfway(t *testing.T, d disk.State, p point.Point) disk.State {
	t.Helper()
	b, err := point.Encode(p)
	if err != api.OK {
		t.Fatalf("Encode = %d", err)
	}
	d, err = disk.PutAll(d, regionAt(p.Epoch), b)
	if err != api.OK {
		t.Fatalf("PutAll = %d", err)
	}
	return d
}

// mixture tells whether octets are neither those of one nor of the other, and are taken for a point all the same: of these nothing is promised.
func mixture(b, one, other []byte) bool {
	_, err := decoded(b)
	return err == api.OK && !bytes.Equal(b, one) && !bytes.Equal(b, other)
}

// elders is what may stand in a region ahead of a point of epoch n + 1: that of n - 1, whole or torn, or no point.
func elders(n int) map[string][]byte {
	torn := form(made(max(n-1, 0), longest))
	clear(torn[3*sector : 5*sector])
	return map[string][]byte{
		"zeros":       make([]byte, whole),
		"ones":        bytes.Repeat([]byte{255}, whole),
		"a long one":  form(made(max(n-1, 0), longest)),
		"a short one": form(made(max(n-1, 0), 3)),
		"a torn one":  torn,
	}
}

// P17.4: whatever a crash keeps of a point, Load tells the old one or the new one; and the new one if all of it is kept.
func TestOldOrNew(t *testing.T) {
	olds, news := 0, 0
	for _, n := range []int{0, 1, 2, 3, 62, 63, highest - 2, highest - 1} {
		for _, size := range []int{0, 5, 60, 128, 300, longest} {
			old, next := made(n, 77), made(n+1, size)
			for name, elder := range elders(n) {
				stands := regionsOf(20, elder, form(old))
				if n%2 == 0 {
					stands = regionsOf(20, form(old), elder)
				}
				d := halfway(t, stands, next)
				for bits := range 1 << turn {
					crashed, err := disk.Crash(d, kept(bits, turn))
					if err != api.OK {
						t.Fatalf("Crash = %d", err)
					}
					region, _ := disk.GetAll(crashed, regionAt(n+1), turn)
					if mixture(region, elder, form(next)) {
						continue
					}
					want := old
					if bytes.Equal(region, form(next)) {
						want = next
						news++
					} else {
						olds++
					}
					if got, err := point.Load(crashed); err != api.OK || !same(got, want) {
						t.Fatalf("epoch %d over %s, kept %b: Load = %v, %d, want %v", n+1, name, bits, got, err, want)
					}
				}
			}
		}
	}
	if olds < 10000 || news < 1000 {
		t.Errorf("%d old, %d new", olds, news)
	}
}

// P17.4: of two long points no mixture is taken, as the sum tells it.
func TestMixtures(t *testing.T) {
	mixed := 0
	for n := 2; n < 40; n++ {
		elder, fresh := form(made(n-1, longest)), form(made(n+1, longest))
		for bits := range 1 << turn {
			b := slices.Clone(elder)
			for k := range turn {
				if bits>>k&1 == 1 {
					copy(b[k*sector:(k+1)*sector], fresh[k*sector:])
				}
			}
			got, err := point.Decode(b)
			switch {
			case bytes.Equal(b, fresh) || bytes.Equal(b, elder):
				if err != api.OK {
					t.Fatalf("epoch %d, kept %b: Decode = %d", n, bits, err)
				}
			case err == api.OK || !isNone(got):
				t.Fatalf("epoch %d, kept %b: Decode = %v, %d", n, bits, got, err)
			default:
				mixed++
			}
		}
	}
	if mixed < 5000 {
		t.Errorf("%d mixtures", mixed)
	}
}

// P17.4: behind a store that came to its end no crash changes what is told.
func TestStoredStays(t *testing.T) {
	d := regionsOf(20, form(made(6, 9)), form(made(7, 90)))
	d = cached(d, 16, text(3, 2*sector))
	for epoch := 8; epoch < 12; epoch++ {
		var err api.Errno
		if d, err = point.Store(d, made(epoch, 40*(epoch-7))); err != api.OK {
			t.Fatalf("Store = %d", err)
		}
		for bits := range 1 << 4 {
			crashed, _ := disk.Crash(d, kept(bits, 20))
			if p, err := point.Load(crashed); err != api.OK || !same(p, made(epoch, 40*(epoch-7))) {
				t.Fatalf("epoch %d: Load behind a crash = %v, %d", epoch, p, err)
			}
			if !bytes.Equal(flushed(crashed)[16*sector:18*sector], text(3, 2*sector)) {
				t.Fatalf("epoch %d: what was put ahead is not there", epoch)
			}
		}
	}
}

// P17.2, P17.4: scripts of stores, some cut off by a crash: what is told is the last one stored, or the one that was cut off.
func TestScripts(t *testing.T) {
	chance := rand.New(rand.NewSource(175))
	cutOff, came, mixed := 0, 0, 0
	for range 100 {
		d, _ := disk.New(17)
		last := made(chance.Intn(3), chance.Intn(longest))
		d = holdStore(t, "the first", d, last)
		for range 30 {
			next := anyPoint(chance)
			next.Epoch = last.Epoch + 1
			if chance.Intn(3) == 0 {
				d, _ = disk.Put(d, 16, text(chance.Intn(99), 5))
			}
			if chance.Intn(2) == 0 {
				d, last = holdStore(t, "a next one", d, next), next
				continue
			}
			elder, _ := disk.GetAll(d, regionAt(next.Epoch), turn)
			d = halfway(t, d, next)
			d, _ = disk.Crash(d, kept(chance.Int()|chance.Int()|chance.Int(), turn+1))
			region, _ := disk.GetAll(d, regionAt(next.Epoch), turn)
			got, err := point.Load(d)
			cutOff++
			switch {
			// What an elder one that was cut off left may be made whole by the zeros of the next one.
			case mixture(region, elder, form(next)):
				holdLoad(t, "a mixture", d)
				mixed++
			case err != api.OK || !same(got, last) && !same(got, next):
				t.Fatalf("Load = %v, %d, want %v or %v", got, err, last, next)
			case same(got, next):
				came++
			}
			last = got
		}
	}
	if cutOff < 500 || came < 50 || came > cutOff-50 || mixed > cutOff/10 {
		t.Errorf("of %d that were cut off %d came, %d were mixed", cutOff, came, mixed)
	}
}
