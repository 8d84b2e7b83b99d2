package slots

import (
	"bytes"
	"encoding/binary"
	"hash/crc32"
	"math"
	"slices"
	"testing"

	"valise/api"
	"valise/sector"
)

// rising tells the next number that follows no simple pattern.
func rising(seed *uint32) int {
	*seed = *seed*1664525 + 1013904223
	return int(*seed >> 8)
}

// some tells n bytes in no simple order, others for each seed.
func some(n int, seed uint32) []byte {
	b := make([]byte, n)
	for k := range b {
		b[k] = byte(rising(&seed) >> 8)
	}
	return b
}

// full tells a sector of bytes, filled up with bytes 0.
func full(b []byte) []byte {
	l := make([]byte, api.Sector)
	copy(l, b)
	return l
}

// titled tells a header as the chapter words it, without help of the package.
func titled(generation, slot, size, sum int) []byte {
	b := []byte("VALS")
	for _, n := range []int{generation, slot, size, sum} {
		b = binary.LittleEndian.AppendUint32(b, uint32(n))
	}
	return full(binary.LittleEndian.AppendUint32(b, crc32.ChecksumIEEE(b)))
}

// sumOf tells the sum of bytes.
func sumOf(b []byte) int { return int(crc32.ChecksumIEEE(b)) }

// titleOf tells the header of bytes.
func titleOf(generation, slot int, b []byte) []byte {
	return titled(generation, slot, len(b), sumOf(b))
}

// is fails if an error is another one.
func is(t *testing.T, err, want api.Errno) {
	t.Helper()
	if err != want {
		t.Fatalf("error %d, want error %d", err, want)
	}
}

// blank is a disk of n sectors.
func blank(t *testing.T, n int) *sector.Disk {
	t.Helper()
	d, err := sector.New(n)
	is(t, err, api.OK)
	return d
}

// ready is a disk of n sectors behind a Format.
func ready(t *testing.T, n int) *sector.Disk {
	t.Helper()
	d := blank(t, n)
	is(t, Format(d), api.OK)
	return d
}

// write writes into a disk.
func write(t *testing.T, d *sector.Disk, i int, b []byte) {
	t.Helper()
	is(t, d.Write(i, b), api.OK)
}

// laid is a disk of n sectors with a header, and bytes from a sector on.
func laid(t *testing.T, n int, title []byte, at int, b []byte) *sector.Disk {
	t.Helper()
	d := blank(t, n)
	write(t, d, 0, title)
	for part := range slices.Chunk(b, api.Sector) {
		write(t, d, at, full(part))
		at++
	}
	is(t, d.Sync(), api.OK)
	return d
}

// sectors tells all that a disk has.
func sectors(t *testing.T, d *sector.Disk) [][]byte {
	t.Helper()
	var l [][]byte
	for i := range d.Len() {
		b, err := d.Read(i)
		is(t, err, api.OK)
		l = append(l, b)
	}
	return l
}

// same fails if a disk has not just these sectors.
func same(t *testing.T, d *sector.Disk, want [][]byte) {
	t.Helper()
	for i, got := range sectors(t, d) {
		if !bytes.Equal(got, want[i]) {
			t.Fatalf("sector %d of %d is %x, want %x", i, d.Len(), got, want[i])
		}
	}
}

// loads fails if Load does not tell just that.
func loads(t *testing.T, d *sector.Disk, b []byte, generation int) {
	t.Helper()
	got, g, err := Load(d)
	if err != api.OK || g != generation || !bytes.Equal(got, b) {
		t.Fatalf("Load: %d bytes, generation %d, error %d, want %d bytes (or others), generation %d", len(got), g, err, len(b), generation)
	}
}

// unloaded fails if Load does not just refuse.
func unloaded(t *testing.T, d *sector.Disk, want api.Errno) {
	t.Helper()
	if b, g, err := Load(d); len(b) != 0 || g != 0 || err != want {
		t.Fatalf("Load: %d bytes, generation %d, error %d, want error %d alone", len(b), g, err, want)
	}
}

// dark is a disk alike whose power is gone.
func dark(t *testing.T, d *sector.Disk) *sector.Disk {
	t.Helper()
	other := d.Copy()
	other.Fuse(0)
	is(t, other.Sync(), api.ErrPower)
	return other
}

// untouched fails if what is done changes a disk, or takes a change off its fuse.
func untouched(t *testing.T, d *sector.Disk, do func(d *sector.Disk)) {
	t.Helper()
	other := d.Copy()
	other.Fuse(0)
	do(other)
	if other.Loose() != d.Loose() || other.Dark() {
		t.Fatalf("Loose %d, Dark %t, want %d, not dark", other.Loose(), other.Dark(), d.Loose())
	}
	same(t, other, sectors(t, d))
}

// The chapter's example.
func TestExample(t *testing.T) {
	if Room(2) != 0 || Room(3) != 512 || Room(10) != 2048 {
		t.Fatalf("Room: %d, %d, %d", Room(2), Room(3), Room(10))
	}
	d := ready(t, 10)
	loads(t, d, nil, 0)
	is(t, Commit(d, []byte("abc")), api.OK)
	loads(t, d, []byte("abc"), 1)
	want := sectors(t, blank(t, 10))
	want[0], want[5] = titleOf(1, 1, []byte("abc")), full([]byte("abc"))
	same(t, d, want)
	is(t, Commit(ready(t, 3), some(600, 1)), api.ErrNoSpace)
}

// P12.1: the room of a slot.
func TestRoom(t *testing.T) {
	for _, c := range []struct{ n, want int }{
		{3, 512}, {4, 512}, {5, 1024}, {6, 1024}, {7, 1536}, {8, 1536}, {9, 2048}, {10, 2048}, {11, 2560}, {101, 25600}, {102, 25600},
		{4094, 1047552}, {4095, 1048064}, {4096, 1048064}, {4097, 1048576}, {4098, 1048576}, {4099, 1048576}, {4100, 1048576}, {8191, 1048576}, {8192, 1048576},
		{2, 0}, {1, 0}, {0, 0}, {-1, 0}, {-2, 0}, {-3, 0}, {-512, 0}, {8193, 0}, {8194, 0}, {16385, 0}, {1 << 32, 0}, {1<<32 + 3, 0}, {math.MaxInt, 0}, {math.MaxInt - 1, 0}, {math.MinInt, 0}, {math.MinInt + 1, 0},
	} {
		if got := Room(c.n); got != c.want {
			t.Errorf("Room(%d) = %d, want %d", c.n, got, c.want)
		}
	}
	for n := 3; n <= 8192; n++ {
		if got, want := Room(n), min((n-1)/2*512, 1<<20); got != want {
			t.Errorf("Room(%d) = %d, want %d", n, got, want)
		}
	}
}

// P12.2: Format writes a header of nothing, and nothing else, and makes it sure.
func TestFormat(t *testing.T) {
	for _, n := range []int{3, 4, 5, 10, 8192} {
		d := ready(t, n)
		want := sectors(t, blank(t, n))
		want[0] = titled(0, 0, 0, 0)
		same(t, d, want)
		is(t, d.Crash(nil), api.OK)
		same(t, d, want)
		loads(t, d, nil, 0)
	}
	title := []byte("VALS\x00\x00\x00\x00\x00\x00\x00\x00\x00\x00\x00\x00\x00\x00\x00\x00")
	if !bytes.Equal(titled(0, 0, 0, 0)[:20], title) {
		t.Fatalf("the header of nothing: %x", titled(0, 0, 0, 0))
	}
}

// P12.2: what a disk had is let be, but for the header, whatever that was.
func TestFormatAnew(t *testing.T) {
	for _, title := range [][]byte{titleOf(7, 1, some(600, 1)), some(512, 2), full(nil), titled(api.MaxNum, 0, 0, 0)} {
		d := laid(t, 6, title, 3, some(600, 1))
		want := sectors(t, d)
		want[0] = titled(0, 0, 0, 0)
		is(t, Format(d), api.OK)
		is(t, d.Crash(nil), api.OK)
		same(t, d, want)
		loads(t, d, nil, 0)
		is(t, Format(d), api.OK)
		loads(t, d, nil, 0)
	}
}

// P12.2: what Format refuses.
func TestFormatRefused(t *testing.T) {
	for _, d := range []*sector.Disk{nil, {}} {
		is(t, Format(d), api.ErrNil)
	}
	for n := 1; n < 3; n++ {
		untouched(t, blank(t, n), func(d *sector.Disk) { is(t, Format(d), api.ErrNoSpace) })
		is(t, Format(dark(t, blank(t, n))), api.ErrNoSpace)
	}
	is(t, Format(dark(t, blank(t, 3))), api.ErrPower)
}

// P12.3: Load tells what the header names, of either slot, whatever stands behind it and in the other slot.
func TestLoad(t *testing.T) {
	for _, n := range []int{3, 4, 5, 9, 10} {
		k := (n - 1) / 2
		for _, size := range []int{0, 1, 3, 511, 512, 513, 1000, 1023, 1024, 1025, 1536, 2047, 2048} {
			if size > 512*k {
				continue
			}
			for slot := range 2 {
				for _, generation := range []int{0, 1, 255, 256, 65536, api.MaxNum - 1, api.MaxNum} {
					b := some(size, uint32(size+n))
					d := laid(t, n, titleOf(generation, slot, b), 1+slot*k, b)
					loads(t, d, b, generation)
					for i := 1 + (1-slot)*k; i < 1+(2-slot)*k; i++ {
						write(t, d, i, some(512, 9))
					}
					if size%512 > 0 {
						at := 1 + slot*k + size/512
						write(t, d, at, slices.Concat(b[size/512*512:], some(512-size%512, 4)))
					}
					loads(t, d, b, generation)
				}
			}
		}
	}
}

// P12.3: Load changes nothing, and takes no change off a fuse.
func TestLoadOnly(t *testing.T) {
	d := ready(t, 5)
	is(t, Commit(d, some(700, 1)), api.OK)
	write(t, d, 1, some(512, 2))
	untouched(t, d, func(d *sector.Disk) { loads(t, d, some(700, 1), 1) })
}

// P12.3: what is not on a disk yet, but loose, is told, too.
func TestLoadLoose(t *testing.T) {
	d := blank(t, 5)
	write(t, d, 0, titleOf(3, 1, some(9, 1)))
	write(t, d, 3, full(some(9, 1)))
	loads(t, d, some(9, 1), 3)
	is(t, d.Crash(nil), api.OK)
	unloaded(t, d, api.ErrFormat)
}

// P12.3: what Load refuses, and the order in which it does.
func TestLoadRefused(t *testing.T) {
	for _, d := range []*sector.Disk{nil, {}} {
		unloaded(t, d, api.ErrNil)
	}
	for n := 1; n < 3; n++ {
		d := blank(t, n)
		write(t, d, 0, titled(0, 0, 0, 0))
		untouched(t, d, func(d *sector.Disk) { unloaded(t, d, api.ErrNoSpace) })
		unloaded(t, dark(t, d), api.ErrNoSpace)
	}
	untouched(t, blank(t, 3), func(d *sector.Disk) { unloaded(t, d, api.ErrFormat) })
	unloaded(t, dark(t, blank(t, 3)), api.ErrPower)
	unloaded(t, dark(t, ready(t, 3)), api.ErrPower)
}

// wrongs are headers that are not right, on a disk of 5 sectors whose second slot has these 600 bytes.
func wrongs(b []byte) map[string][]byte {
	good := titleOf(1, 1, b)
	changed := func(at int, x ...byte) []byte {
		l := slices.Clone(good)
		copy(l[at:], x)
		return l
	}
	small := slices.Concat([]byte("vals"), good[4:20])
	return map[string][]byte{
		"nothing": full(nil), "no header": some(512, 5), "another mark": changed(0, 'v'), "no mark": full(good[4:24]), "a byte ahead": full(append([]byte{0}, good[:24]...)),
		"another mark and its sum": full(binary.LittleEndian.AppendUint32(small, crc32.ChecksumIEEE(small))),
		"no sum":                   changed(20, 0, 0, 0, 0), "a byte behind": changed(24, 1), "a byte at the end": changed(511, 1),
		"slot 0": titleOf(1, 0, b), "slot 2": titleOf(1, 2, b), "slot 3": titleOf(1, 3, b), "slot 2^31": titleOf(1, 1<<31, b), "slot MaxNum": titleOf(1, api.MaxNum, b), "slot 2 of nothing": titled(1, 2, 0, 0),
		"another sum": titled(1, 1, 600, sumOf(b)+1), "no sum of bytes": titled(1, 1, 600, 0), "the sum of fewer": titled(1, 1, 599, sumOf(b)), "the sum of more": titled(1, 1, 601, sumOf(b)),
		"a sum of nothing": titled(1, 1, 0, 1), "one byte": titled(1, 1, 1, sumOf(b[:1])+1),
		"no room": titled(1, 1, 1025, sumOf(slices.Concat(b, make([]byte, 425)))), "far no room": titled(1, 1, 1<<20, sumOf(b)), "2^31": titled(1, 1, 1<<31, sumOf(b)), "MaxNum": titled(1, 1, api.MaxNum, sumOf(b)),
		"no room in slot 0": titled(1, 0, 1624, sumOf(slices.Concat(make([]byte, 1024), b))), "the highest byte first": slices.Concat([]byte("VALS"), []byte{0, 0, 0, 1, 0, 0, 0, 1, 0, 0, 2, 0x58}, good[16:]),
	}
}

// P12.3: headers that are not right. What is right in all but one thing is among them.
func TestLoadFormat(t *testing.T) {
	b := some(600, 3)
	loads(t, laid(t, 5, titleOf(1, 1, b), 3, b), b, 1)
	for name, title := range wrongs(b) {
		t.Run(name, func(t *testing.T) {
			d := laid(t, 5, title, 3, b)
			untouched(t, d, func(d *sector.Disk) { unloaded(t, d, api.ErrFormat) })
			untouched(t, d, func(d *sector.Disk) { is(t, Commit(d, []byte("abc")), api.ErrFormat) })
			untouched(t, d, func(d *sector.Disk) { is(t, Commit(d, some(5000, 1)), api.ErrFormat) })
		})
	}
}

// P12.3: bytes that were changed have another sum; those that do not count may be any.
func TestLoadSum(t *testing.T) {
	b := some(600, 3)
	d := laid(t, 5, titleOf(1, 0, b), 1, b)
	for at := range 1024 {
		is(t, d.Crash(nil), api.OK)
		part, err := d.Read(1 + at/512)
		is(t, err, api.OK)
		part[at%512] ^= 1 << (at % 8)
		write(t, d, 1+at/512, part)
		if at >= len(b) {
			loads(t, d, b, 1)
			continue
		}
		unloaded(t, d, api.ErrFormat)
		is(t, Commit(d, nil), api.ErrFormat)
	}
}

// P12.3: the most bytes that a disk's slots have room for, and one more.
func TestLoadMost(t *testing.T) {
	for _, n := range []int{3, 4, 5, 4096, 4097, 4099, 8192} {
		room, k := Room(n), (n-1)/2
		for slot := range 2 {
			b := some(room+1, 3)
			loads(t, laid(t, n, titleOf(9, slot, b[:room]), 1+slot*k, b[:room]), b[:room], 9)
			if 1+slot*k+room/512 < n {
				unloaded(t, laid(t, n, titleOf(9, slot, b), 1+slot*k, b), api.ErrFormat)
			}
			unloaded(t, laid(t, n, titleOf(9, slot, b), 1+slot*k, b[:room]), api.ErrFormat)
		}
	}
}

// P12.4: each Commit goes into the other slot, its front on, filled up with bytes 0, and leaves all else.
func TestCommit(t *testing.T) {
	for _, n := range []int{3, 4, 9, 10, 21} {
		d, k := blank(t, n), (n-1)/2
		for i := range n {
			write(t, d, i, some(512, uint32(i)))
		}
		is(t, Format(d), api.OK)
		want := sectors(t, d)
		for g := 1; g < 40; g++ {
			b := some(g*397%(512*k+1), uint32(g))
			is(t, Commit(d, b), api.OK)
			at := 1 + g%2*k
			want[0] = titleOf(g, g%2, b)
			for part := range slices.Chunk(b, 512) {
				want[at] = full(part)
				at++
			}
			same(t, d, want)
			is(t, d.Crash(nil), api.OK)
			same(t, d, want)
			loads(t, d, b, g)
		}
	}
}

// P12.4: the most bytes there is room for, and more.
func TestCommitRoom(t *testing.T) {
	for _, n := range []int{3, 4, 5, 10, 4096, 4097, 4098, 4099, 8191, 8192} {
		d, room := ready(t, n), Room(n)
		for g := 1; g <= 2; g++ {
			b := some(room, uint32(g))
			is(t, Commit(d, b), api.OK)
			is(t, d.Crash(nil), api.OK)
			loads(t, d, b, g)
		}
		for _, more := range []int{1, 2, 511, 512, 513, 1 << 20} {
			untouched(t, d, func(d *sector.Disk) { is(t, Commit(d, make([]byte, room+more)), api.ErrNoSpace) })
		}
		loads(t, d, some(room, 2), 2)
	}
}

// P12.4: generations go up to MaxNum, and are told ahead of the room.
func TestCommitGenerations(t *testing.T) {
	d := laid(t, 5, titled(api.MaxNum-2, 1, 0, 0), 1, nil)
	for _, g := range []int{api.MaxNum - 1, api.MaxNum} {
		is(t, Commit(d, some(5, uint32(g))), api.OK)
		loads(t, d, some(5, uint32(g)), g)
	}
	for _, size := range []int{0, 1, 1024, 1025, 5000} {
		untouched(t, d, func(d *sector.Disk) { is(t, Commit(d, make([]byte, size)), api.ErrTooLarge) })
	}
	loads(t, d, some(5, api.MaxNum), api.MaxNum)
	is(t, Commit(dark(t, d), nil), api.ErrPower)
	is(t, Format(d), api.OK)
	is(t, Commit(d, []byte("abc")), api.OK)
	loads(t, d, []byte("abc"), 1)
}

// P12.4: what Commit refuses, and the order in which it does.
func TestCommitRefused(t *testing.T) {
	for _, b := range [][]byte{nil, {1}, some(600, 1), some(1<<20+1, 1)} {
		for _, d := range []*sector.Disk{nil, {}} {
			is(t, Commit(d, b), api.ErrNil)
		}
		for n := 1; n < 3; n++ {
			d := blank(t, n)
			write(t, d, 0, titled(0, 0, 0, 0))
			untouched(t, d, func(d *sector.Disk) { is(t, Commit(d, b), api.ErrNoSpace) })
			is(t, Commit(dark(t, d), b), api.ErrNoSpace)
		}
		untouched(t, blank(t, 3), func(d *sector.Disk) { is(t, Commit(d, b), api.ErrFormat) })
		is(t, Commit(dark(t, blank(t, 3)), b), api.ErrPower)
		is(t, Commit(dark(t, ready(t, 3)), b), api.ErrPower)
	}
}

// P12.7: a header of which one byte is another one is not right, whichever byte, and whatever it is.
func TestTurned(t *testing.T) {
	b := some(600, 3)
	for _, title := range [][]byte{titleOf(1, 1, b), titled(0, 0, 0, 0), titleOf(0xfffffffe, 1, b), titled(256, 1, 0, 0)} {
		d := laid(t, 5, title, 3, b)
		_, _, err := Load(d)
		is(t, err, api.OK)
		for at := range 512 {
			for x := range 255 {
				turned := slices.Clone(title)
				turned[at] += byte(x + 1)
				write(t, d, 0, turned)
				unloaded(t, d, api.ErrFormat)
			}
			is(t, Commit(d, []byte("abc")), api.ErrFormat)
			is(t, d.Crash(nil), api.OK)
		}
	}
}

// What is handed in is neither changed nor kept, and an answer is new memory.
func TestApart(t *testing.T) {
	for _, size := range []int{1, 511, 512, 513, 1000} {
		memory := some(size+600, 1)
		d := ready(t, 5)
		is(t, Commit(d, memory[:size]), api.OK)
		if !bytes.Equal(memory, some(size+600, 1)) {
			t.Fatal("Commit changed what it was given")
		}
		clear(memory)
		loads(t, d, some(size, 1), 1)
		first, _, err := Load(d)
		is(t, err, api.OK)
		second, _, err := Load(d)
		is(t, err, api.OK)
		first[0] ^= 1
		if second[0] != some(size, 1)[0] {
			t.Fatal("two answers share memory")
		}
		second[size-1] ^= 1
		_ = append(second[:size:cap(second)], 7)
		loads(t, d, some(size, 1), 1)
	}
}
