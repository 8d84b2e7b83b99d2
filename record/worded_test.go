package record

import (
	"archive/zip"
	"bytes"
	"encoding/binary"
	"hash/crc32"
	"io"
	"slices"
	"testing"

	"valise/api"
)

// number is a number as the chapter words it, and in how many bytes it stands.
type number struct{ v, width int }

// wordedBytes are bytes, and numbers and a name behind them, without help of the package.
func wordedBytes(mark []byte, l []number, name string) []byte {
	b := slices.Clone(mark)
	for _, n := range l {
		if n.width == 2 {
			b = binary.LittleEndian.AppendUint16(b, uint16(n.v))
		} else {
			b = binary.LittleEndian.AppendUint32(b, uint32(n.v))
		}
	}
	return append(b, name...)
}

// wordedLocal is a local header as the chapter words it.
func wordedLocal(r api.Record) []byte {
	return wordedBytes([]byte{0x50, 0x4b, 3, 4}, []number{{20, 2}, {0, 2}, {r.Method, 2}, {0, 2}, {33, 2}, {r.Sum, 4}, {r.Packed, 4}, {r.Size, 4}, {len(r.Name), 2}, {0, 2}}, r.Name)
}

// wordedCentral is a central header as the chapter words it.
func wordedCentral(r api.Record) []byte {
	folder := 0
	if r.Name[len(r.Name)-1] == 0x2f {
		folder = 16
	}
	return wordedBytes([]byte{0x50, 0x4b, 1, 2}, []number{
		{20, 2}, {20, 2}, {0, 2}, {r.Method, 2}, {0, 2}, {33, 2}, {r.Sum, 4}, {r.Packed, 4}, {r.Size, 4}, {len(r.Name), 2}, {0, 2}, {0, 2}, {0, 2}, {0, 2}, {folder, 4}, {r.At, 4},
	}, r.Name)
}

// wordedEnd is an end as the chapter words it.
func wordedEnd(count, size, at int) []byte {
	return wordedBytes([]byte{0x50, 0x4b, 5, 6}, []number{{0, 2}, {0, 2}, {count, 2}, {count, 2}, {size, 4}, {at, 4}, {0, 2}}, "")
}

// get2 and get4 are the numbers at a place.
func get2(b []byte, at int) int { return int(binary.LittleEndian.Uint16(b[at:])) }
func get4(b []byte, at int) int { return int(binary.LittleEndian.Uint32(b[at:])) }

// wordedReadLocal reads a local header as the chapter words it.
func wordedReadLocal(b []byte, at int) (api.Record, int, api.Errno) {
	if at < 0 || at > len(b) {
		return api.Record{}, 0, api.ErrArg
	}
	l := b[at:]
	if len(l) < 30 {
		return api.Record{}, 0, api.ErrShort
	}
	method, size := get2(l, 8), get2(l, 26)
	if !bytes.HasPrefix(l, []byte{0x50, 0x4b, 3, 4}) || get2(l, 4) > 20 || get2(l, 6) != 0 || method != 0 && method != 8 || size == 0 || get2(l, 28) != 0 {
		return api.Record{}, 0, api.ErrFormat
	}
	if len(l) < 30+size {
		return api.Record{}, 0, api.ErrShort
	}
	return api.Record{Name: string(l[30 : 30+size]), Method: method, Sum: get4(l, 14), Packed: get4(l, 18), Size: get4(l, 22)}, at + 30 + size, api.OK
}

// wordedReadCentral reads a central header as the chapter words it.
func wordedReadCentral(b []byte, at int) (api.Record, int, api.Errno) {
	if at < 0 || at > len(b) {
		return api.Record{}, 0, api.ErrArg
	}
	l := b[at:]
	if len(l) < 46 {
		return api.Record{}, 0, api.ErrShort
	}
	method, size := get2(l, 10), get2(l, 28)
	if !bytes.HasPrefix(l, []byte{0x50, 0x4b, 1, 2}) || get2(l, 6) > 20 || get2(l, 8) != 0 || method != 0 && method != 8 || size == 0 || get2(l, 30) != 0 || get2(l, 32) != 0 || get2(l, 34) != 0 {
		return api.Record{}, 0, api.ErrFormat
	}
	if len(l) < 46+size {
		return api.Record{}, 0, api.ErrShort
	}
	return api.Record{Name: string(l[46 : 46+size]), Method: method, Sum: get4(l, 16), Packed: get4(l, 20), Size: get4(l, 24), At: get4(l, 42)}, at + 46 + size, api.OK
}

// wordedReadEnd reads an end as the chapter words it.
func wordedReadEnd(b []byte, at int) (int, int, int, api.Errno) {
	if at < 0 || at > len(b) {
		return 0, 0, 0, api.ErrArg
	}
	l := b[at:]
	if len(l) < 22 {
		return 0, 0, 0, api.ErrShort
	}
	if !bytes.HasPrefix(l, []byte{0x50, 0x4b, 5, 6}) || get2(l, 4) != 0 || get2(l, 6) != 0 || get2(l, 20) != 0 || get2(l, 8) != get2(l, 10) {
		return 0, 0, 0, api.ErrFormat
	}
	return get2(l, 8), get4(l, 12), get4(l, 16), api.OK
}

// alike fails if bytes are read otherwise than the chapter words it, as a header of either kind or as an end, and tells how many of these they are.
func alike(t *testing.T, b []byte, at int) int {
	t.Helper()
	reads := 0
	for _, c := range []struct{ do, worded reading }{{ReadLocal, wordedReadLocal}, {ReadCentral, wordedReadCentral}} {
		record, behind, err := c.worded(b, at)
		read(t, c.do, b, at, entry{record, behind, err})
		if err == api.OK {
			reads++
		}
	}
	count, size, where, err := wordedReadEnd(b, at)
	ended(t, b, at, count, size, where, err)
	if err == api.OK {
		reads++
	}
	return reads
}

// P14.2, P14.3, P14.4: one byte is another one, whichever byte, and whatever it is; with and without bytes behind.
func TestTurned(t *testing.T) {
	records := []api.Record{{Name: "a"}, {Name: "dir/", Method: 8, Sum: 0x0a0b0c0d, Packed: 0x01020304, Size: 0x05060708, At: 0x0f0e0d0c}, {Name: every()}}
	var all [][]byte
	for _, r := range records {
		all = append(all, wordedLocal(r), wordedCentral(r))
	}
	all = append(all, wordedEnd(0, 0, 0), wordedEnd(0x1414, 0x01020304, 0x05060708))
	for _, whole := range all {
		for _, behind := range []int{0, 1, 24, 70000} {
			b := slices.Concat(some(2, 1), whole, some(behind, 5))
			for at := 2; at < 2+min(len(whole), 48); at++ {
				is := b[at]
				for x := range 256 {
					b[at] = byte(x)
					alike(t, b, 2)
				}
				b[at] = is
			}
			for at := range 5 {
				alike(t, b, at)
			}
		}
	}
}

// anyHeader tells bytes that are nearly a header, or an end: most numbers are what they may be, or next to it.
func anyHeader(seed *uint32) []byte {
	one := func(l ...int) int { return l[rising(seed)>>4%len(l)] }
	nought := func() number { return number{one(0, 0, 0, 0, 0, 0, 0, 0, 0, 0, 0, 1, 256, 65535), 2} }
	small := func() number { return number{one(0, 20, 33, 255, 65535), 2} }
	any4 := func() number { return number{one(0, 16, 65536, 1<<31, api.MaxNum, rising(seed)), 4} }
	size := one(0, 1, 1, 1, 2, 5, 9, 255, 256, 300)
	common := []number{{one(20, 20, 20, 10, 0, 19, 21, 256, 276), 2}, nought(), {one(0, 0, 8, 8, 8, 1, 9, 256, 264), 2}, small(), small(), any4(), any4(), any4(), {size, 2}, nought()}
	name := string(some(max(size+one(0, 0, 0, 1, 7, -1, -size, -9), 0), *seed))
	kind := one(1, 3, 5)
	mark := []byte{0x50, 0x4b, byte(kind), byte(one(kind+1, kind+1, kind+1, 2, 4, 6))}
	switch one(kind, kind, kind, 1, 3, 5) {
	case 3:
		return wordedBytes(mark, common, name)
	case 1:
		return wordedBytes(mark, slices.Concat([]number{small()}, common, []number{nought(), nought(), small(), any4(), any4()}), name)
	}
	count := one(0, 1, 128, 65535)
	return wordedBytes(mark, []number{nought(), nought(), {count, 2}, {one(count, count, count, 1), 2}, any4(), any4(), nought()}, name)
}

// P14.2, P14.3, P14.4: bytes that are nearly a header, one behind the other, from places in and about them.
func TestWorded(t *testing.T) {
	var seed uint32 = 14
	reads := 0
	for range 60000 {
		ahead := some(rising(&seed)>>4%4, seed)
		b := append(ahead, anyHeader(&seed)...)
		if rising(&seed)>>4%3 == 0 {
			b = append(b, anyHeader(&seed)...)
		}
		reads += alike(t, b, len(ahead))
		alike(t, b, rising(&seed)>>4%(len(b)+3)-1)
		alike(t, b[:rising(&seed)>>4%(len(b)+1)], len(ahead))
	}
	if reads < 5000 {
		t.Errorf("the test reads only %d", reads)
	}
}

// What is laid down is ZIP's: Go's own reader finds all of it.
func TestZip(t *testing.T) {
	files := []struct{ name, data string }{{"a", "some bytes"}, {"d/", ""}, {"d/e.txt", ""}, {"d/f", "more of them"}}
	var b, middle []byte
	for _, f := range files {
		r := api.Record{Name: f.name, Sum: int(crc32.ChecksumIEEE([]byte(f.data))), Packed: len(f.data), Size: len(f.data), At: len(b)}
		b = slices.Concat(b, must(Local(r)), []byte(f.data))
		middle = append(middle, must(Central(r))...)
	}
	b = slices.Concat(b, middle, must(End(len(files), len(middle), len(b))))
	archive, err := zip.NewReader(bytes.NewReader(b), int64(len(b)))
	if err != nil || len(archive.File) != len(files) {
		t.Fatal(err)
	}
	for i, f := range archive.File {
		r, err := f.Open()
		if err != nil {
			t.Fatal(err)
		}
		data, err := io.ReadAll(r)
		if err != nil || f.Name != files[i].name || string(data) != files[i].data || f.FileInfo().IsDir() != (f.Name == "d/") || f.Modified.Year() != 1980 {
			t.Errorf("%s: %q, %v", f.Name, data, err)
		}
	}
}

// What Go's own writer lays down is read, from the end on.
func TestZipBack(t *testing.T) {
	var out bytes.Buffer
	w := zip.NewWriter(&out)
	names := []string{"d/", "a", "d/e.txt"}
	for i, name := range names {
		part, err := w.CreateRaw(&zip.FileHeader{Name: name, Method: zip.Deflate, CRC32: 0xfffffff0 + uint32(i), CompressedSize64: uint64(i), UncompressedSize64: uint64(1000 + i)})
		if err != nil {
			t.Fatal(err)
		}
		if _, err := part.Write(make([]byte, i)); err != nil {
			t.Fatal(err)
		}
	}
	if err := w.Close(); err != nil {
		t.Fatal(err)
	}
	b := out.Bytes()
	count, size, at, err := ReadEnd(b, len(b)-22)
	if count != len(names) || at+size != len(b)-22 || err != api.OK {
		t.Fatal(count, size, at, err)
	}
	for i, name := range names {
		record, behind, err := ReadCentral(b, at)
		if want := (api.Record{Name: name, Method: 8, Sum: 0xfffffff0 + i, Packed: i, Size: 1000 + i, At: record.At}); record != want || err != api.OK {
			t.Fatal(record, err)
		}
		want := record
		want.At = 0
		read(t, ReadLocal, b, record.At, entry{want, record.At + 30 + len(name), api.OK})
		at = behind
	}
	if at != len(b)-22 {
		t.Errorf("the last central header ends at %d of %d", at, len(b))
	}
}
