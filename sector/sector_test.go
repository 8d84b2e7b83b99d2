package sector

import (
	"bytes"
	"math"
	"slices"
	"testing"

	"valise/api"
)

// rising tells the next number that follows no simple pattern.
func rising(seed *uint32) int {
	*seed = *seed*1664525 + 1013904223
	return int(*seed >> 8)
}

// many tells a sector of the same bytes.
func many(x byte) []byte { return bytes.Repeat([]byte{x}, 512) }

// mixed tells a sector's bytes in no simple order, others for each seed.
func mixed(seed uint32) []byte {
	b := make([]byte, 512)
	for k := range b {
		b[k] = byte(rising(&seed) >> 8)
	}
	return b
}

// disk is New of what may be.
func disk(t *testing.T, n int) *Disk {
	t.Helper()
	d, err := New(n)
	if err != api.OK || d == nil {
		t.Fatalf("New(%d) = %v, error %d", n, d, err)
	}
	return d
}

// is fails if an error is another one.
func is(t *testing.T, err, want api.Errno) {
	t.Helper()
	if err != want {
		t.Fatalf("error %d, want error %d", err, want)
	}
}

// has fails if a sector has not just these bytes.
func has(t *testing.T, d *Disk, i int, want []byte) {
	t.Helper()
	got, err := d.Read(i)
	if err != api.OK || !bytes.Equal(got, want) {
		t.Fatalf("Read(%d) = %x, error %d, want %x", i, got, err, want)
	}
}

// unread fails if Read does not just refuse.
func unread(t *testing.T, d *Disk, i int, want api.Errno) {
	t.Helper()
	if got, err := d.Read(i); got != nil || err != want {
		t.Fatalf("Read(%d) = %x, error %d, want error %d", i, got, err, want)
	}
}

// stands fails if as many writes are not loose, or the power is not as told.
func stands(t *testing.T, d *Disk, loose int, dark bool) {
	t.Helper()
	if d.Loose() != loose || d.Dark() != dark {
		t.Fatalf("Loose %d, Dark %t, want %d, %t", d.Loose(), d.Dark(), loose, dark)
	}
}

// beside are the bytes of a's beginning, n of them, and b's behind them.
func beside(a []byte, n int, b []byte) []byte { return slices.Concat(a[:n], b[n:]) }

// noSectors are numbers that no sector of n has.
func noSectors(n int) []int {
	return []int{-1, -2, -512, n, n + 1, n + 512, 8192, 1 << 32, math.MaxInt, math.MinInt}
}

// noBytes are bytes that no sector has.
func noBytes() [][]byte {
	return [][]byte{nil, {}, {1}, make([]byte, 256), make([]byte, 511), make([]byte, 513), make([]byte, 1024), make([]byte, 511, 512)}
}

// The chapter's example.
func TestExample(t *testing.T) {
	d := disk(t, 2)
	x, y, z := many('x'), many('y'), many('z')
	is(t, d.Write(1, x), api.OK)
	is(t, d.Sync(), api.OK)
	is(t, d.Write(1, y), api.OK)
	is(t, d.Write(0, z), api.OK)
	stands(t, d, 2, false)
	has(t, d, 1, y)
	is(t, d.Crash([]int{12}), api.OK)
	has(t, d, 1, beside(y, 10, x))
	has(t, d, 0, many(0))
	d.Fuse(0)
	is(t, d.Write(1, y), api.ErrPower)
	stands(t, d, 1, true)
	unread(t, d, 1, api.ErrPower)
}

// P11.1: a disk of n sectors, all bytes 0.
func TestNew(t *testing.T) {
	for _, n := range []int{1, 2, 3, 10, 511, 512, 8191, 8192} {
		d := disk(t, n)
		if d.Len() != n {
			t.Errorf("Len of %d sectors = %d", n, d.Len())
		}
		stands(t, d, 0, false)
		for i := range n {
			has(t, d, i, many(0))
		}
		is(t, d.Write(n-1, many(1)), api.OK)
		is(t, d.Write(n, many(1)), api.ErrArg)
	}
	for _, n := range []int{0, -1, -2, 8193, 8194, 1 << 16, 1 << 32, 1<<32 + 1, math.MaxInt, math.MinInt} {
		if d, err := New(n); d != nil || err != api.ErrArg {
			t.Errorf("New(%d) = %v, error %d", n, d, err)
		}
	}
}

// P11.1: nothing that is done changes how many sectors there are.
func TestLen(t *testing.T) {
	d := disk(t, 7)
	d.Fuse(2)
	for range 4 {
		d.Write(6, many(1))
		d.Sync()
		if d.Len() != 7 || d.Copy().Len() != 7 {
			t.Fatalf("Len %d, of the copy %d", d.Len(), d.Copy().Len())
		}
	}
	if d.Crash(nil); d.Len() != 7 {
		t.Fatalf("Len behind a crash: %d", d.Len())
	}
}

// P11.2, P11.3: what is read is what was written last, synced or not, and of that sector alone.
func TestRead(t *testing.T) {
	d := disk(t, 5)
	for k, i := range []int{0, 1, 4, 1, 0, 4, 4, 1} {
		b := mixed(uint32(k))
		is(t, d.Write(i, b), api.OK)
		has(t, d, i, b)
		has(t, d, 2, many(0))
		if k%3 == 2 {
			is(t, d.Sync(), api.OK)
			stands(t, d, 0, false)
			has(t, d, i, b)
		}
	}
	has(t, d, 0, mixed(4))
	has(t, d, 1, mixed(7))
	has(t, d, 2, many(0))
	has(t, d, 3, many(0))
	has(t, d, 4, mixed(6))
}

// P11.2, P11.3: bytes 0 are written as others are.
func TestZero(t *testing.T) {
	d := disk(t, 3)
	is(t, d.Write(1, many(9)), api.OK)
	is(t, d.Write(2, many(8)), api.OK)
	is(t, d.Sync(), api.OK)
	is(t, d.Write(1, many(0)), api.OK)
	has(t, d, 1, many(0))
	is(t, d.Crash(nil), api.OK)
	has(t, d, 1, many(9))
	is(t, d.Write(1, many(0)), api.OK)
	is(t, d.Crash([]int{502}), api.OK)
	has(t, d, 1, beside(many(0), 500, many(9)))
	is(t, d.Write(1, many(0)), api.OK)
	is(t, d.Sync(), api.OK)
	is(t, d.Write(1, many(7)), api.OK)
	is(t, d.Crash(nil), api.OK)
	has(t, d, 1, many(0))
	has(t, d, 2, many(8))
}

// P11.3: sectors that are all 0 take no room.
func TestNoRoom(t *testing.T) {
	d := disk(t, 8192)
	for round, x := range []byte{0, 1, 0, 2} {
		for i := range 8192 {
			is(t, d.Write(i, many(x)), api.OK)
		}
		if round < 3 {
			is(t, d.Sync(), api.OK)
		} else {
			is(t, d.Crash(slices.Repeat([]int{2}, 8192)), api.OK)
		}
		want := []int{0, 8192, 0, 1}[round]
		if len(d.sure) != want || len(d.loose) != 0 || len(d.last) != 0 {
			t.Fatalf("round %d: %d sectors, %d loose ones, %d places of these", round, len(d.sure), len(d.loose), len(d.last))
		}
	}
}

// P11.2, P11.3: what is refused for an argument, also of a disk that is dark; it changes nothing and is no change.
func TestArg(t *testing.T) {
	for _, n := range []int{1, 2, 100} {
		d := disk(t, n)
		is(t, d.Write(0, many(1)), api.OK)
		d.Fuse(1)
		refused := func(loose int, dark bool) {
			t.Helper()
			for _, i := range noSectors(n) {
				unread(t, d, i, api.ErrArg)
				is(t, d.Write(i, many(2)), api.ErrArg)
				is(t, d.Write(i, nil), api.ErrArg)
			}
			for _, b := range noBytes() {
				is(t, d.Write(0, b), api.ErrArg)
				is(t, d.Write(n-1, b), api.ErrArg)
			}
			stands(t, d, loose, dark)
		}
		refused(1, false)
		has(t, d, 0, many(1))
		is(t, d.Write(0, many(3)), api.OK)
		refused(2, false)
		has(t, d, 0, many(3))
		is(t, d.Write(0, many(4)), api.ErrPower)
		refused(3, true)
		is(t, d.Crash([]int{1, 1, 1}), api.OK)
		has(t, d, 0, many(4))
		stands(t, d, 0, false)
	}
}

// P11.3: of a dark disk nothing is read, written or synced, and what is loose stays so.
func TestDark(t *testing.T) {
	d := disk(t, 3)
	is(t, d.Write(1, many(1)), api.OK)
	is(t, d.Write(2, many(2)), api.OK)
	d.Fuse(0)
	stands(t, d, 2, false)
	has(t, d, 1, many(1))
	is(t, d.Write(1, many(3)), api.ErrPower)
	for range 3 {
		stands(t, d, 3, true)
		for i := range 3 {
			unread(t, d, i, api.ErrPower)
			is(t, d.Write(i, many(4)), api.ErrPower)
		}
		is(t, d.Sync(), api.ErrPower)
	}
	is(t, d.Crash([]int{0, 1}), api.OK)
	stands(t, d, 0, false)
	has(t, d, 1, many(0))
	has(t, d, 2, many(2))
}

// P11.3: a Sync that finds the power gone makes nothing sure.
func TestDarkSync(t *testing.T) {
	d := disk(t, 2)
	is(t, d.Write(1, many(1)), api.OK)
	is(t, d.Sync(), api.OK)
	is(t, d.Write(1, many(2)), api.OK)
	d.Fuse(0)
	is(t, d.Sync(), api.ErrPower)
	stands(t, d, 1, true)
	unread(t, d, 1, api.ErrPower)
	other := d.Copy()
	is(t, d.Crash(nil), api.OK)
	has(t, d, 1, many(1))
	is(t, other.Crash([]int{1}), api.OK)
	has(t, other, 1, many(2))
}

// P11.3: a Sync makes all sure, however often a sector was written.
func TestSync(t *testing.T) {
	d := disk(t, 4)
	is(t, d.Sync(), api.OK)
	for k := range 20 {
		is(t, d.Write(k%3, mixed(uint32(k))), api.OK)
		stands(t, d, k+1, false)
	}
	is(t, d.Sync(), api.OK)
	stands(t, d, 0, false)
	for _, keep := range [][]int{nil, {1, 1, 1}, {0, 100, 2}} {
		is(t, d.Crash(keep), api.OK)
		has(t, d, 0, mixed(18))
		has(t, d, 1, mixed(19))
		has(t, d, 2, mixed(17))
		has(t, d, 3, many(0))
	}
}

// P11.4: just as many changes are done as the fuse says: writes that are not refused, and Syncs, and nothing else.
func TestFuse(t *testing.T) {
	for n := -3; n < 30; n++ {
		for _, sync := range []int{1, 2, 3, 5, 1000} {
			d := disk(t, 3)
			d.Fuse(n)
			for k := range max(n, 0) {
				is(t, d.Write(3, many(1)), api.ErrArg)
				is(t, d.Write(1, nil), api.ErrArg)
				unread(t, d, -1, api.ErrArg)
				d.Copy().Sync()
				if k%sync == sync-1 {
					is(t, d.Sync(), api.OK)
				} else {
					is(t, d.Write(1+k%2, mixed(uint32(k))), api.OK)
					has(t, d, 1+k%2, mixed(uint32(k)))
				}
				if d.Dark() || d.Len() != 3 {
					t.Fatalf("of %d changes: dark behind %d", n, k+1)
				}
			}
			loose := d.Loose()
			other := d.Copy()
			is(t, d.Write(1, many(9)), api.ErrPower)
			stands(t, d, loose+1, true)
			is(t, other.Sync(), api.ErrPower)
			stands(t, other, loose, true)
		}
	}
}

// P11.4: the last fuse holds; where there is none, as many changes are done as one likes.
func TestFuseAgain(t *testing.T) {
	d := disk(t, 2)
	for k := range 1000 {
		is(t, d.Write(k%2, many(byte(k))), api.OK)
		is(t, d.Sync(), api.OK)
	}
	for _, fuses := range [][]int{{0, 3}, {100, 3}, {-1, 3}, {3, 3}, {math.MaxInt, 3}, {math.MinInt, 3}, {5, 0, 9, 3}} {
		for _, n := range fuses {
			d.Fuse(n)
		}
		for range 3 {
			is(t, d.Sync(), api.OK)
		}
		is(t, d.Sync(), api.ErrPower)
		is(t, d.Crash(nil), api.OK)
	}
	for _, n := range []int{0, -1, -2, math.MinInt} {
		d.Fuse(n)
		stands(t, d, 0, false)
		is(t, d.Sync(), api.ErrPower)
		is(t, d.Crash(nil), api.OK)
	}
	d.Fuse(math.MaxInt)
	for range 100 {
		is(t, d.Sync(), api.OK)
	}
	d.Fuse(4)
	is(t, d.Sync(), api.OK)
	d.Fuse(1)
	is(t, d.Sync(), api.OK)
	is(t, d.Sync(), api.ErrPower)
}

// P11.4: of many changes, with a fuse and without one.
func TestFuseLong(t *testing.T) {
	d := disk(t, 1)
	syncs := func(n int) {
		t.Helper()
		for range n {
			is(t, d.Sync(), api.OK)
		}
	}
	syncs(1<<20 + 1)
	d.Fuse(1 << 20)
	syncs(1 << 20)
	is(t, d.Sync(), api.ErrPower)
	is(t, d.Crash(nil), api.OK)
	syncs(1<<20 + 1)
}

// P11.4, P11.5: a dark disk stays dark whatever the fuse, up to a crash, which takes the fuse away.
func TestFuseDark(t *testing.T) {
	for _, n := range []int{-1, 0, 1, 5, math.MaxInt} {
		d := disk(t, 2)
		is(t, d.Write(1, many(1)), api.OK)
		d.Fuse(0)
		is(t, d.Sync(), api.ErrPower)
		d.Fuse(n)
		stands(t, d, 1, true)
		is(t, d.Sync(), api.ErrPower)
		is(t, d.Write(1, many(2)), api.ErrPower)
		unread(t, d, 1, api.ErrPower)
		stands(t, d, 1, true)
		is(t, d.Crash([]int{1}), api.OK)
		for range 20 {
			is(t, d.Write(1, many(3)), api.OK)
			is(t, d.Sync(), api.OK)
		}
		d.Fuse(n)
		is(t, d.Crash(nil), api.OK)
		stands(t, d, 0, false)
		for range 20 {
			is(t, d.Write(1, many(4)), api.OK)
			is(t, d.Sync(), api.OK)
		}
	}
}

// P11.5: what a crash leaves of a write, by its number.
func TestCrash(t *testing.T) {
	old, new := mixed(1), mixed(2)
	for number, left := range map[int]int{
		math.MinInt: 0, -513: 0, -512: 0, -2: 0, -1: 0, 0: 0, 1: 512, 2: 0, 3: 1, 4: 2, 12: 10, 257: 255, 258: 256, 512: 510, 513: 511,
		514: 0, 515: 1, 1025: 511, 1026: 0, 1027: 1, 1<<32 + 7: 5, math.MaxInt: 509,
	} {
		for _, i := range []int{1, 2} {
			d := disk(t, 3)
			is(t, d.Write(i, old), api.OK)
			is(t, d.Sync(), api.OK)
			is(t, d.Write(i, new), api.OK)
			is(t, d.Crash([]int{number}), api.OK)
			stands(t, d, 0, false)
			has(t, d, i, beside(new, left, old))
			has(t, d, 3-i, many(0))
		}
	}
}

// P11.5: the sector 0 is never torn.
func TestCrashHeader(t *testing.T) {
	old, new := mixed(1), mixed(2)
	for _, number := range []int{math.MinInt, -512, -1, 0, 1, 2, 3, 12, 513, 514, 515, 1026, math.MaxInt - 1, math.MaxInt} {
		d := disk(t, 1)
		is(t, d.Write(0, old), api.OK)
		is(t, d.Sync(), api.OK)
		is(t, d.Write(0, new), api.OK)
		is(t, d.Crash([]int{number}), api.OK)
		if number > 0 {
			has(t, d, 0, new)
		} else {
			has(t, d, 0, old)
		}
	}
}

// P11.5: writes are done one by one in their order; where there is no number they are lost, and numbers beyond them are none's.
func TestCrashOrder(t *testing.T) {
	a, b, c := many('a'), many('b'), many('c')
	for _, x := range []struct {
		keep []int
		want []byte
	}{
		{nil, many(0)}, {[]int{}, many(0)}, {[]int{1}, a}, {[]int{0, 1}, b}, {[]int{0, 0, 1}, c}, {[]int{1, 1, 1}, c}, {[]int{1, 1}, b}, {[]int{1, 1, 0}, b}, {[]int{1, 0, 1}, c},
		{[]int{1, 12}, beside(b, 10, a)}, {[]int{12, 1}, b}, {[]int{102, 12}, beside(b, 10, beside(a, 100, many(0)))}, {[]int{12, 102}, beside(b, 100, many(0))},
		{[]int{1, 302, 102}, beside(c, 100, beside(b, 300, a))}, {[]int{1, 102, 302}, beside(c, 300, a)}, {[]int{302, 0, 102}, beside(c, 100, beside(a, 300, many(0)))},
		{[]int{0, 0, 0, 1, 1, 1}, many(0)}, {[]int{1, 0, 0, 1, 99}, a},
	} {
		d := disk(t, 4)
		for _, what := range [][]byte{a, b, c} {
			is(t, d.Write(3, what), api.OK)
		}
		is(t, d.Crash(x.keep), api.OK)
		has(t, d, 3, x.want)
	}
}

// P11.5: numbers are those of the writes, not of the sectors; Syncs begin them anew.
func TestCrashNumbers(t *testing.T) {
	d := disk(t, 5)
	is(t, d.Write(4, many(1)), api.OK)
	is(t, d.Write(3, many(2)), api.OK)
	is(t, d.Sync(), api.OK)
	is(t, d.Write(4, many(3)), api.OK)
	is(t, d.Write(1, many(4)), api.OK)
	is(t, d.Write(3, many(5)), api.OK)
	is(t, d.Write(0, many(6)), api.OK)
	is(t, d.Write(2, many(7)), api.OK)
	is(t, d.Crash([]int{0, 1, 22, 33, 0}), api.OK)
	has(t, d, 0, many(6))
	has(t, d, 1, many(4))
	has(t, d, 2, many(0))
	has(t, d, 3, beside(many(5), 20, many(2)))
	has(t, d, 4, many(1))
}

// P11.5: what a crash left is sure: another one takes nothing of it away.
func TestCrashTwice(t *testing.T) {
	d := disk(t, 2)
	is(t, d.Write(0, many(1)), api.OK)
	is(t, d.Write(1, many(2)), api.OK)
	d.Fuse(0)
	is(t, d.Sync(), api.ErrPower)
	is(t, d.Crash([]int{1, 52}), api.OK)
	for range 3 {
		has(t, d, 0, many(1))
		has(t, d, 1, beside(many(2), 50, many(0)))
		is(t, d.Write(1, many(3)), api.OK)
		is(t, d.Crash(nil), api.OK)
	}
}

// P11.6: a copy is alike in all, and knows nothing of the other one.
func TestCopy(t *testing.T) {
	d := disk(t, 3)
	is(t, d.Write(1, many(1)), api.OK)
	is(t, d.Sync(), api.OK)
	is(t, d.Write(1, many(2)), api.OK)
	is(t, d.Write(2, many(3)), api.OK)
	d.Fuse(2)
	a, b, c := d.Copy(), d.Copy(), d.Copy()
	for _, x := range []*Disk{d, a, b} {
		if x.Len() != 3 {
			t.Fatalf("Len %d", x.Len())
		}
		stands(t, x, 2, false)
		has(t, x, 1, many(2))
		has(t, x, 2, many(3))
		is(t, x.Write(2, many(4)), api.OK)
		is(t, x.Write(0, many(5)), api.OK)
		is(t, x.Sync(), api.ErrPower)
		stands(t, x, 4, true)
	}
	is(t, a.Crash(nil), api.OK)
	has(t, a, 0, many(0))
	has(t, a, 1, many(1))
	has(t, a, 2, many(0))
	stands(t, d, 4, true)
	other := b.Copy()
	stands(t, other, 4, true)
	unread(t, other, 1, api.ErrPower)
	is(t, b.Crash([]int{1, 1, 1, 1}), api.OK)
	stands(t, other, 4, true)
	is(t, other.Crash([]int{0, 1}), api.OK)
	has(t, other, 1, many(1))
	has(t, other, 2, many(3))
	has(t, b, 0, many(5))
	has(t, b, 1, many(2))
	has(t, b, 2, many(4))
	stands(t, c, 2, false)
	is(t, c.Sync(), api.OK)
	is(t, c.Crash(nil), api.OK)
	has(t, c, 1, many(2))
	has(t, c, 2, many(3))
}

// P11.6: of two disks alike neither one tells what is done with the other one, sure or loose.
func TestCopyApart(t *testing.T) {
	for _, turned := range []bool{false, true} {
		d := disk(t, 4)
		is(t, d.Write(1, many(1)), api.OK)
		is(t, d.Write(2, many(2)), api.OK)
		is(t, d.Sync(), api.OK)
		for k := range 5 {
			is(t, d.Write(2, many(byte(10+k))), api.OK)
		}
		other := d.Copy()
		if turned {
			d, other = other, d
		}
		is(t, d.Write(3, many(20)), api.OK)
		is(t, other.Write(1, many(30)), api.OK)
		is(t, other.Write(2, many(31)), api.OK)
		has(t, d, 1, many(1))
		has(t, d, 2, many(14))
		has(t, d, 3, many(20))
		has(t, other, 3, many(0))
		is(t, d.Sync(), api.OK)
		stands(t, other, 7, false)
		d.Fuse(0)
		is(t, d.Sync(), api.ErrPower)
		has(t, other, 1, many(30))
		is(t, other.Sync(), api.OK)
		is(t, d.Crash(nil), api.OK)
		has(t, d, 1, many(1))
		has(t, d, 2, many(14))
		has(t, d, 3, many(20))
		has(t, other, 1, many(30))
		has(t, other, 2, many(31))
		has(t, other, 3, many(0))
	}
}

// Calls of no disk, and of one that nothing made.
func TestNil(t *testing.T) {
	for _, d := range []*Disk{nil, {}, new(Disk)} {
		for range 2 {
			if n, loose, dark, other := d.Len(), d.Loose(), d.Dark(), d.Copy(); n != 0 || loose != 0 || dark || other != nil {
				t.Errorf("Len %d, Loose %d, Dark %t, Copy %v", n, loose, dark, other)
			}
			for _, i := range []int{0, 1, -1, 8192} {
				unread(t, d, i, api.ErrNil)
				is(t, d.Write(i, many(1)), api.ErrNil)
				is(t, d.Write(i, nil), api.ErrNil)
			}
			is(t, d.Sync(), api.ErrNil)
			is(t, d.Crash(nil), api.ErrNil)
			is(t, d.Crash([]int{1, 2}), api.ErrNil)
			d.Fuse(0)
			d.Fuse(-1)
			is(t, d.Sync(), api.ErrNil)
			d.Fuse(10)
		}
	}
}

// What is handed in is neither changed nor kept, and an answer is new memory.
func TestApart(t *testing.T) {
	d := disk(t, 2)
	behind := slices.Concat(many(1), []byte{9, 9, 9})
	b := behind[:512]
	is(t, d.Write(1, b), api.OK)
	if !bytes.Equal(behind, slices.Concat(many(1), []byte{9, 9, 9})) {
		t.Fatalf("Write changed what it was given: %x", behind)
	}
	b[0], b[511] = 7, 7
	reads := func() {
		t.Helper()
		first, err := d.Read(1)
		is(t, err, api.OK)
		second, err := d.Read(1)
		is(t, err, api.OK)
		first[0], second[511] = 5, 6
		if first[511] != 1 || second[0] != 1 {
			t.Fatal("two answers share memory")
		}
		_ = append(first[:10], 8)
		has(t, d, 1, many(1))
		zero, err := d.Read(0)
		is(t, err, api.OK)
		zero[3] = 4
		has(t, d, 0, many(0))
	}
	reads()
	is(t, d.Sync(), api.OK)
	reads()
	keep := []int{0, 1, 5, 6}
	is(t, d.Write(0, many(2)), api.OK)
	is(t, d.Write(0, many(3)), api.OK)
	is(t, d.Crash(keep[:2]), api.OK)
	if !slices.Equal(keep, []int{0, 1, 5, 6}) {
		t.Fatalf("Crash changed what it was given: %v", keep)
	}
	keep[1] = 0
	has(t, d, 0, many(3))
}
