package slots

import (
	"fmt"
	"slices"
	"testing"

	"valise/api"
	"valise/sector"
)

// worded is what a disk's slots have as the chapter words it, without help of the package.
type worded struct {
	generation int
	b          []byte
}

// changed is a change of a disk: a write, or, below 0, a Sync.
type changed struct {
	at int
	b  []byte
}

// syncs is the change that is a Sync.
var syncs = changed{at: -1}

// formatted are the changes of a Format.
func formatted() []changed { return []changed{{0, titled(0, 0, 0, 0)}, syncs} }

// committed are the changes of a Commit behind what w has. Each one since a Format turned the slot, so the generation tells which one counts.
func committed(n int, w worded, b []byte) []changed {
	slot := 1 - w.generation%2
	at := 1 + slot*((n-1)/2)
	var l []changed
	for part := range slices.Chunk(b, 512) {
		l = append(l, changed{at, full(part)})
		at++
	}
	return append(l, syncs, changed{0, titleOf(w.generation+1, slot, b)}, syncs)
}

// do does changes on a disk, up to the one that finds the power gone.
func do(d *sector.Disk, l []changed) api.Errno {
	for _, c := range l {
		err := api.OK
		if c.at < 0 {
			err = d.Sync()
		} else {
			err = d.Write(c.at, c.b)
		}
		if err != api.OK {
			return err
		}
	}
	return api.OK
}

// keeps tells what a crash may keep of n loose writes: all rows of these numbers for a few writes, and some rows for many.
func keeps(n int) [][]int {
	numbers := []int{0, 1, 2, 3, 258, 513}
	rows := [][]int{nil}
	for range min(n, 3) {
		var longer [][]int
		for _, row := range rows {
			for _, c := range numbers {
				longer = append(longer, append(slices.Clone(row), c))
			}
		}
		rows = longer
	}
	seed := uint32(n)
	for k := range rows {
		for len(rows[k]) < n {
			rows[k] = append(rows[k], numbers[rising(&seed)>>4%len(numbers)])
		}
	}
	return rows
}

// alike fails if two disks are not alike, loose writes and what any crash leaves, too.
func alike(t *testing.T, got, want *sector.Disk) {
	t.Helper()
	if got.Loose() != want.Loose() || got.Dark() != want.Dark() {
		t.Fatalf("Loose %d, Dark %t, want %d, %t", got.Loose(), got.Dark(), want.Loose(), want.Dark())
	}
	for k := range got.Loose() + 1 {
		a, b := got.Copy(), want.Copy()
		// All that is loose is kept up to k, and then half of one: so their order, and what they have, is seen.
		keep := append(slices.Repeat([]int{1}, k), 258)
		is(t, a.Crash(keep), api.OK)
		is(t, b.Crash(keep), api.OK)
		same(t, a, sectors(t, b))
	}
}

// P12.2, P12.4: the changes are just those that the chapter names, in its order, wherever the power goes.
func TestChanges(t *testing.T) {
	for _, n := range []int{3, 4, 5, 8, 11} {
		old := worded{generation: n, b: some(n*40, 1)}
		k := (n - 1) / 2
		before := laid(t, n, titleOf(n, n%2, old.b), 1+n%2*k, old.b)
		for _, size := range []int{0, 1, 511, 512, 513, 1024, 1025, 2500} {
			if size > Room(n) {
				continue
			}
			b := some(size, 7)
			for _, c := range []struct {
				l  []changed
				do func(d *sector.Disk) api.Errno
			}{
				{formatted(), Format},
				{committed(n, old, b), func(d *sector.Disk) api.Errno { return Commit(d, b) }},
			} {
				for fuse := range len(c.l) + 3 {
					got, want := before.Copy(), before.Copy()
					got.Fuse(fuse)
					want.Fuse(fuse)
					err := do(want, c.l)
					if (err == api.OK) != (fuse >= len(c.l)) {
						t.Fatalf("%d changes of %d: error %d", fuse, len(c.l), err)
					}
					is(t, c.do(got), err)
					alike(t, got, want)
				}
			}
		}
	}
}

// tells fails if Load does not tell one of these, and tells which one it does.
func tells(t *testing.T, d *sector.Disk, l ...worded) worded {
	t.Helper()
	b, g, err := Load(d)
	is(t, err, api.OK)
	for _, w := range l {
		if g == w.generation && slices.Equal(b, w.b) {
			return w
		}
	}
	t.Fatalf("Load: %d bytes, generation %d: none of %d", len(b), g, len(l))
	return worded{}
}

// P12.6: wherever the power goes within a Commit, whatever stays: behind the crash there is what was, or what was to be, whole; and Commits go on.
func TestCrash(t *testing.T) {
	for _, n := range []int{3, 5, 9, 12} {
		for _, sizes := range [][2]int{{0, 0}, {0, 1}, {100, 0}, {100, 512}, {512, 513}, {1024, 1000}, {700, 1024}, {2048, 2048}, {2000, 1537}} {
			if max(sizes[0], sizes[1]) > Room(n) {
				continue
			}
			d := ready(t, n)
			is(t, Commit(d, some(Room(n), 1)), api.OK)
			old := worded{2, some(sizes[0], 2)}
			is(t, Commit(d, old.b), api.OK)
			next := worded{3, some(sizes[1], 3)}
			parts := (sizes[1] + 511) / 512
			for fuse := range parts + 3 {
				cut := d.Copy()
				cut.Fuse(fuse)
				is(t, Commit(cut, next.b), api.ErrPower)
				unloaded(t, cut, api.ErrPower)
				is(t, Commit(cut, next.b), api.ErrPower)
				for _, keep := range keeps(cut.Loose()) {
					after := cut.Copy()
					is(t, after.Crash(keep), api.OK)
					crashed(t, after, old, next, fuse > parts && keep[0] > 0)
				}
			}
		}
	}
}

// crashed fails if a disk has, behind a crash within a Commit, not what was, or, if that was named, what was to be; or does not go on with it.
func crashed(t *testing.T, d *sector.Disk, old, next worded, named bool) {
	t.Helper()
	want := old
	if named {
		want = next
	}
	tells(t, d, want)
	for g := range 3 {
		b := some(Room(d.Len())-g, uint32(g))
		is(t, Commit(d, b), api.OK)
		tells(t, d, worded{want.generation + 1 + g, b})
	}
}

// anyKeep tells numbers for n writes, in no simple order.
func anyKeep(seed *uint32, n int) []int {
	var keep []int
	for range n {
		switch rising(seed) >> 4 % 3 {
		case 0:
			keep = append(keep, -(rising(seed) >> 4 % 2))
		case 1:
			keep = append(keep, 1)
		default:
			keep = append(keep, 2+rising(seed)>>4%1030)
		}
	}
	return keep
}

// P12.5, P12.6: whatever is done, with power that goes and comes, Load tells what the last Commit that answered OK was given, or the one that was cut off.
func TestWorded(t *testing.T) {
	for run := range uint32(200) {
		seed := run * 7919
		n := 3 + int(run%9)
		d, w := ready(t, n), worded{}
		may := []worded{w}
		for range 60 {
			switch rising(&seed) >> 4 % 6 {
			case 0:
				is(t, d.Crash(anyKeep(&seed, d.Loose())), api.OK)
				w = tells(t, d, may...)
				may = []worded{w}
			case 1:
				d.Fuse(rising(&seed) >> 4 % 14)
			default:
				b := some(rising(&seed)>>4%(Room(n)+1), seed)
				off := d.Dark()
				switch err := Commit(d, b); {
				case err == api.OK && !off:
					w = worded{w.generation + 1, b}
					may = []worded{w}
				case err == api.ErrPower && d.Dark() && !off:
					may = append(may, worded{w.generation + 1, b})
				case err != api.ErrPower || !off:
					t.Fatalf("Commit: error %d, dark %t", err, off)
				}
			}
			if d.Dark() {
				unloaded(t, d, api.ErrPower)
			} else {
				tells(t, d, w)
			}
		}
	}
}

// P12.6: power that goes, again and again, at the edges of the greatest Commit.
func TestCrashGreat(t *testing.T) {
	d := ready(t, 8192)
	old := worded{}
	for _, fuse := range []int{0, 1, 1000, 2047, 2048, 2049, 2050, 2051} {
		next := worded{old.generation + 1, some(1<<20, uint32(fuse))}
		d.Fuse(fuse)
		want := api.ErrPower
		if fuse == 2051 {
			want = api.OK
		}
		is(t, Commit(d, next.b), want)
		is(t, d.Crash(slices.Repeat([]int{1, 0, 300}, 683)), api.OK)
		if fuse >= 2049 {
			old = next
		}
		tells(t, d, old)
	}
}

// What is told hangs on the disk alone: two alike tell the same, and a copy goes on by itself.
func TestCopies(t *testing.T) {
	d := ready(t, 9)
	is(t, Commit(d, []byte("abc")), api.OK)
	other := d.Copy()
	for g := range 5 {
		is(t, Commit(d, fmt.Appendf(nil, "here %d", g)), api.OK)
		loads(t, other, []byte("abc"), 1)
	}
	is(t, Commit(other, []byte("there")), api.OK)
	loads(t, other, []byte("there"), 2)
	loads(t, d, []byte("here 4"), 6)
}
