package sector

import (
	"bytes"
	"slices"
	"testing"

	"valise/api"
)

// written is a write, as a worded disk has it.
type written struct {
	i int
	b []byte
}

// worded is a disk as the chapter words it, without help of the package: the sectors of the last Sync or crash, the loose writes, and how many changes are done still, below 0 if that is not said.
type worded struct {
	synced [][]byte
	loose  []written
	fuse   int
	dark   bool
}

// wordedOf is a worded disk of n sectors.
func wordedOf(n int) *worded {
	w := &worded{fuse: -1}
	for range n {
		w.synced = append(w.synced, make([]byte, 512))
	}
	return w
}

// crashed tells the sectors behind a crash, worked out byte by byte.
func (w *worded) crashed(keep []int) [][]byte {
	var sectors [][]byte
	for _, b := range w.synced {
		sectors = append(sectors, slices.Clone(b))
	}
	for k, x := range w.loose {
		for at := range 512 {
			switch {
			case k >= len(keep) || keep[k] <= 0:
			case keep[k] == 1, x.i == 0, at < (keep[k]-2)%512:
				sectors[x.i][at] = x.b[at]
			}
		}
	}
	return sectors
}

// all tells what keeps all that is loose.
func (w *worded) all() []int { return slices.Repeat([]int{1}, len(w.loose)) }

// burn takes a change off the fuse.
func (w *worded) burn() {
	if w.fuse == 0 {
		w.dark = true
	}
	w.fuse--
}

// write is Write of what may be.
func (w *worded) write(i int, b []byte) api.Errno {
	if w.dark {
		return api.ErrPower
	}
	w.burn()
	w.loose = append(w.loose, written{i, b})
	if w.dark {
		return api.ErrPower
	}
	return api.OK
}

// sync is Sync.
func (w *worded) sync() api.Errno {
	if w.dark {
		return api.ErrPower
	}
	if w.burn(); w.dark {
		return api.ErrPower
	}
	w.synced, w.loose = w.crashed(w.all()), nil
	return api.OK
}

// crash is Crash.
func (w *worded) crash(keep []int) {
	w.synced, w.loose, w.fuse, w.dark = w.crashed(keep), nil, -1, false
}

// alike fails if a disk does not tell what the worded one does.
func alike(t *testing.T, d *Disk, w *worded) {
	t.Helper()
	if d.Len() != len(w.synced) {
		t.Fatalf("Len %d, want %d", d.Len(), len(w.synced))
	}
	stands(t, d, len(w.loose), w.dark)
	for i, b := range w.crashed(w.all()) {
		if w.dark {
			unread(t, d, i, api.ErrPower)
		} else {
			has(t, d, i, b)
		}
	}
}

// anyBytes tells a sector's bytes: all alike, often 0, or in no simple order.
func anyBytes(seed *uint32) []byte {
	switch rising(seed) >> 4 % 4 {
	case 0:
		return many(0)
	case 1:
		return many(byte(rising(seed) >> 4))
	}
	return mixed(uint32(rising(seed)))
}

// anyKeep tells numbers for n writes, some more or some fewer.
func anyKeep(seed *uint32, n int) []int {
	var keep []int
	for range max(n+rising(seed)>>4%5-2, 0) {
		switch rising(seed) >> 4 % 4 {
		case 0:
			keep = append(keep, -(rising(seed) >> 4 % 3))
		case 1:
			keep = append(keep, 1)
		default:
			keep = append(keep, 2+rising(seed)>>4%1100)
		}
	}
	return keep
}

// step does something with both disks.
func step(t *testing.T, d *Disk, w *worded, seed *uint32) {
	t.Helper()
	switch rising(seed) >> 4 % 16 {
	case 0, 1:
		is(t, d.Sync(), w.sync())
	case 2:
		n := rising(seed)>>4%12 - 2
		d.Fuse(n)
		w.fuse = max(n, 0)
	case 3, 4:
		keep := anyKeep(seed, len(w.loose))
		is(t, d.Crash(keep), api.OK)
		w.crash(keep)
	case 5:
		is(t, d.Write(rising(seed)>>4%len(w.synced), many(1)[:511]), api.ErrArg)
		is(t, d.Write(len(w.synced), many(1)), api.ErrArg)
	default:
		i, b := rising(seed)>>4%len(w.synced), anyBytes(seed)
		is(t, d.Write(i, b), w.write(i, b))
	}
}

// P11.1 to P11.6: whatever is done, a disk tells what the chapter says, and so does its copy, which goes on in its stead.
func TestWorded(t *testing.T) {
	for run := range uint32(300) {
		seed := run * 7919
		n := 1 + int(run%5)
		d, w := disk(t, n), wordedOf(n)
		for range 80 {
			left := d.Copy()
			before := *w
			step(t, d, w, &seed)
			alike(t, d, w)
			alike(t, left, &before)
			if rising(&seed)>>4%8 == 0 {
				d = d.Copy()
			}
		}
	}
}

// used tells a disk with sectors that are synced and then loose writes of some of them, and which bytes were synced.
func used(t *testing.T, seed *uint32) (*Disk, []written, [][]byte) {
	t.Helper()
	d := disk(t, 6)
	var synced [][]byte
	for i := range 6 {
		b := anyBytes(seed)
		is(t, d.Write(i, anyBytes(seed)), api.OK)
		is(t, d.Write(i, b), api.OK)
		synced = append(synced, b)
	}
	is(t, d.Sync(), api.OK)
	var loose []written
	for range rising(seed) >> 4 % 9 {
		x := written{rising(seed) >> 4 % 4, anyBytes(seed)}
		is(t, d.Write(x.i, x.b), api.OK)
		loose = append(loose, x)
	}
	return d, loose, synced
}

// goes lets the power go or not, at a write or at a Sync, and tells what is loose then.
func goes(t *testing.T, d *Disk, loose []written, how int) []written {
	t.Helper()
	switch how {
	case 1:
		d.Fuse(0)
		is(t, d.Sync(), api.ErrPower)
	case 2:
		d.Fuse(-1)
		is(t, d.Write(1, many(77)), api.ErrPower)
		return append(loose, written{1, many(77)})
	}
	return loose
}

// P11.7: what was synced, and was not written since, stands behind any crash.
func TestSure(t *testing.T) {
	seed := uint32(1)
	for run := range 500 {
		d, loose, synced := used(t, &seed)
		loose = goes(t, d, loose, run%3)
		is(t, d.Crash(anyKeep(&seed, len(loose))), api.OK)
		for i, b := range synced {
			if !slices.ContainsFunc(loose, func(x written) bool { return x.i == i }) {
				has(t, d, i, b)
			}
		}
	}
}

// P11.8: behind a crash each byte is that of the last Sync or of a loose write, and the sector 0 is one of them whole.
func TestEachByte(t *testing.T) {
	seed := uint32(2)
	for run := range 500 {
		d, loose, synced := used(t, &seed)
		loose = goes(t, d, loose, run%3)
		is(t, d.Crash(anyKeep(&seed, len(loose))), api.OK)
		for i, b := range synced {
			got, err := d.Read(i)
			is(t, err, api.OK)
			may := [][]byte{b}
			for _, x := range loose {
				if x.i == i {
					may = append(may, x.b)
				}
			}
			if i == 0 && !slices.ContainsFunc(may, func(b []byte) bool { return bytes.Equal(b, got) }) {
				t.Fatalf("the sector 0 is none of %x: %x", may, got)
			}
			for at, x := range got {
				if !slices.ContainsFunc(may, func(b []byte) bool { return b[at] == x }) {
					t.Fatalf("byte %d of the sector %d is none of %x: %x", at, i, may, got)
				}
			}
		}
	}
}

// P11.9: with 1 for each loose write a crash changes nothing that is read.
func TestWhole(t *testing.T) {
	seed := uint32(3)
	for run := range 500 {
		d, loose, synced := used(t, &seed)
		loose = goes(t, d, loose, run%3)
		want := slices.Clone(synced)
		for _, x := range loose {
			want[x.i] = x.b
		}
		is(t, d.Crash(slices.Repeat([]int{1}, d.Loose())), api.OK)
		for range 2 {
			for i, b := range want {
				has(t, d, i, b)
			}
			is(t, d.Crash(nil), api.OK)
		}
	}
}

// P11.2, P11.3, P11.5: however many writes are loose.
func TestManyLoose(t *testing.T) {
	d := disk(t, 8192)
	for k := range 50000 {
		is(t, d.Write(k%3, many(byte(k))), api.OK)
		has(t, d, k%3, many(byte(k)))
	}
	stands(t, d, 50000, false)
	other := d.Copy()
	is(t, d.Sync(), api.OK)
	has(t, d, 1, many(49999%256))
	is(t, other.Crash([]int{0, 0, 102}), api.OK)
	has(t, other, 1, many(0))
	has(t, other, 2, beside(many(2), 100, many(0)))
}

// Who goes through the loose writes may leave off.
func TestLeaveOff(t *testing.T) {
	d := disk(t, 3)
	for k := range 3 {
		is(t, d.Write(k, many(byte(k))), api.OK)
	}
	var seen []int
	for w, n := range d.kept([]int{1, 12, 1}) {
		if seen = append(seen, w.at, n); len(seen) == 4 {
			break
		}
	}
	if !slices.Equal(seen, []int{0, 512, 1, 10}) {
		t.Fatalf("seen: %v", seen)
	}
}
