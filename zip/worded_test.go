package zip

import (
	gozip "archive/zip"
	"bytes"
	"compress/flate"
	"encoding/binary"
	"hash/crc32"
	"io"
	"slices"
	"strings"
	"testing"

	"valise/api"
	"valise/deflate"
	"valise/inflate"
)

// isName tells whether a file's name may be, as chapters 13 and 15 word it.
func isName(p string) bool {
	names := strings.Split(p, "/")
	for _, name := range names {
		if name == "" || len(name) > 32 || name == "." || name == ".." {
			return false
		}
		for _, c := range []byte(name) {
			if c < 32 || c > 126 || c == '\\' {
				return false
			}
		}
	}
	return len(p) <= 120 && len(names) <= 8
}

// wordedCheck tells whether files may be in one archive, as P15.1 words it: each pair of files is asked.
func wordedCheck(l []api.File) api.Errno {
	if len(l) > 128 {
		return api.ErrTooLarge
	}
	for _, f := range l {
		switch {
		case !isName(f.Name):
			return api.ErrName
		case f.Dir && len(f.Data) > 0:
			return api.ErrDir
		case len(f.Data) > 65536:
			return api.ErrTooLarge
		}
	}
	one, under := false, false
	for i, f := range l {
		for k, g := range l {
			one = one || i != k && f.Name == g.Name
			under = under || !f.Dir && strings.HasPrefix(g.Name, f.Name+"/")
		}
	}
	switch {
	case one:
		return api.ErrExists
	case under:
		return api.ErrFile
	}
	return api.OK
}

// entry is an entry as a test lays it by hand: its name, the bytes that stand behind its header, and those that they tell.
type entry struct {
	name         string
	method       int
	packed, data []byte
}

// numbers are the ones that both headers have behind the version that is asked for.
func (e entry) numbers() []byte {
	var b []byte
	for _, n := range []int{0, e.method, 0, 33} {
		b = binary.LittleEndian.AppendUint16(b, uint16(n))
	}
	b = binary.LittleEndian.AppendUint32(b, crc32.ChecksumIEEE(e.data))
	b = binary.LittleEndian.AppendUint32(b, uint32(len(e.packed)))
	b = binary.LittleEndian.AppendUint32(b, uint32(len(e.data)))
	b = binary.LittleEndian.AppendUint16(b, uint16(len(e.name)))
	return append(b, 0, 0)
}

// entryOf is the entry of a file, packed as a stream if there is one.
func entryOf(f api.File, stream []byte) entry {
	e := entry{name: f.Name, packed: f.Data, data: f.Data}
	if f.Dir {
		e.name += "/"
	}
	if stream != nil {
		e.method, e.packed = 8, stream
	}
	return e
}

// entriesOf are the entries of files, none of them packed.
func entriesOf(l []api.File) []entry {
	var entries []entry
	for _, f := range l {
		entries = append(entries, entryOf(f, nil))
	}
	return entries
}

// layout is an archive that is laid by hand, and where its headers, and its end, stand.
type layout struct {
	b                []byte
	locals, centrals []int
	end              int
}

// laid lays entries as chapters 14 and 15 word it, without help of the package.
func laid(entries []entry) layout {
	var a layout
	for _, e := range entries {
		a.locals = append(a.locals, len(a.b))
		a.b = slices.Concat(a.b, []byte{0x50, 0x4b, 3, 4, 20, 0}, e.numbers(), []byte(e.name), e.packed)
	}
	begin := len(a.b)
	for k, e := range entries {
		a.centrals = append(a.centrals, len(a.b))
		a.b = slices.Concat(a.b, []byte{0x50, 0x4b, 1, 2, 20, 0, 20, 0}, e.numbers(), make([]byte, 6))
		folder := uint32(0)
		if strings.HasSuffix(e.name, "/") {
			folder = 16
		}
		a.b = binary.LittleEndian.AppendUint32(a.b, folder)
		a.b = binary.LittleEndian.AppendUint32(a.b, uint32(a.locals[k]))
		a.b = append(a.b, e.name...)
	}
	a.end = len(a.b)
	a.b = append(a.b, 0x50, 0x4b, 5, 6, 0, 0, 0, 0)
	a.b = binary.LittleEndian.AppendUint16(a.b, uint16(len(entries)))
	a.b = binary.LittleEndian.AppendUint16(a.b, uint16(len(entries)))
	a.b = binary.LittleEndian.AppendUint32(a.b, uint32(a.end-begin))
	a.b = binary.LittleEndian.AppendUint32(a.b, uint32(begin))
	a.b = append(a.b, 0, 0)
	return a
}

// get2 and get4 are the numbers at a place.
func get2(b []byte, at int) int { return int(binary.LittleEndian.Uint16(b[at:])) }
func get4(b []byte, at int) int { return int(binary.LittleEndian.Uint32(b[at:])) }

// said is what both headers of an entry say, but for what may be any.
type said struct {
	name                      string
	method, sum, packed, size int
}

// wordedHeader reads a header: a mark, a version at a place, and numbers that both kinds have behind it; no name is ErrFormat's business, too.
func wordedHeader(b []byte, mark string, at, name int) (said, bool) {
	if len(b) < name || !strings.HasPrefix(string(b), mark) || get2(b, at) > 20 || get2(b, at+2) != 0 || get2(b, at+24) != 0 {
		return said{}, false
	}
	method, size := get2(b, at+4), get2(b, at+22)
	if method != 0 && method != 8 || size == 0 || len(b) < name+size {
		return said{}, false
	}
	return said{string(b[name : name+size]), method, get4(b, at+10), get4(b, at+14), get4(b, at+18)}, true
}

// wordedData tells what stands behind a local header, and whether it is what the header says.
func wordedData(s said, b []byte) ([]byte, bool) {
	if s.packed > len(b) {
		return nil, false
	}
	data := slices.Clone(b[:s.packed])
	if s.method == 8 {
		told, used, err := inflate.Decode(data, 65536)
		if err != api.OK || used != s.packed {
			return nil, false
		}
		data = told
	}
	return data, len(data) == s.size && int(crc32.ChecksumIEEE(data)) == s.sum
}

// wordedParse reads an archive as the chapter words it: from its beginning on, header by header, whatever the end says.
func wordedParse(b []byte) ([]api.File, api.Errno) {
	if len(b) > 1<<20 {
		return nil, api.ErrTooLarge
	}
	var files []api.File
	var all []said
	var places []int
	at := 0
	for {
		s, ok := wordedHeader(b[at:], "PK\x03\x04", 4, 30)
		if !ok {
			break
		}
		behind := at + 30 + len(s.name)
		data, ok := wordedData(s, b[behind:])
		name, dir := strings.CutSuffix(s.name, "/")
		if !ok || dir && s.method == 8 {
			return nil, api.ErrFormat
		}
		all, places, files = append(all, s), append(places, at), append(files, api.File{Name: name, Dir: dir, Data: data})
		at = behind + s.packed
	}
	begin := at
	for k, want := range all {
		s, ok := wordedHeader(b[at:], "PK\x01\x02", 6, 46)
		if !ok || s != want || get2(b, at+32) != 0 || get2(b, at+34) != 0 || get4(b, at+42) != places[k] {
			return nil, api.ErrFormat
		}
		at += 46 + len(s.name)
	}
	end := slices.Concat([]byte{0x50, 0x4b, 5, 6, 0, 0, 0, 0, byte(len(all)), byte(len(all) >> 8), byte(len(all)), byte(len(all) >> 8)}, binary.LittleEndian.AppendUint32(nil, uint32(at-begin)), binary.LittleEndian.AppendUint32(nil, uint32(begin)), []byte{0, 0})
	if !bytes.Equal(b[at:], end) || wordedCheck(files) != api.OK {
		return nil, api.ErrFormat
	}
	return files, api.OK
}

// alike fails if bytes are parsed otherwise than the chapter words it, and tells whether they are an archive.
func alike(t *testing.T, b []byte) bool {
	t.Helper()
	want, wantErr := wordedParse(b)
	files, err := Parse(b)
	if err != wantErr || !same(files, want) {
		t.Fatalf("Parse(%.200x) = %.200v, error %d, want %.200v, error %d", b, files, err, want, wantErr)
	}
	return err == api.OK
}

// P15.1: files whose names are often one, or under each other, and which are wrong now and then.
func TestCheckWorded(t *testing.T) {
	names := []string{"a", "b", "ab", "a b", "a/b", "a/a", "a/b/c", "a/b/c/d", "b/a", "a.b", "ab/a", "c", "d/e/f", "d/e", "d", "e/f/g/h/i/j/k/l", "e/f", "e/f/g/h/i/j/k"}
	wrong := []string{"", "/", "a/", "/a", "a//b", ".", "a/..", "é", "a\\b", strings.Repeat("n", 33)}
	data := [][]byte{nil, {}, []byte("x"), make([]byte, 65536), make([]byte, 65537)}
	var seed uint32 = 15
	times := map[api.Errno]int{}
	for range 40000 {
		var l []api.File
		for range 1 + rising(&seed)%5 {
			f := api.File{Name: names[rising(&seed)%len(names)], Dir: rising(&seed)%2 == 0}
			if rising(&seed)%30 == 0 {
				f.Name = wrong[rising(&seed)%len(wrong)]
			}
			if !f.Dir || rising(&seed)%30 == 0 {
				f.Data = data[rising(&seed)%4+rising(&seed)%30/29]
			}
			l = append(l, f)
		}
		err := wordedCheck(l)
		is(t, told(l), Check(l), err)
		times[err]++
	}
	for _, err := range []api.Errno{api.OK, api.ErrTooLarge, api.ErrName, api.ErrDir, api.ErrExists, api.ErrFile} {
		if times[err] < 300 {
			t.Errorf("error %d comes only %d times", err, times[err])
		}
	}
}

// P15.3: one byte is another one, whichever byte, and whatever it is: in headers and names, in bytes, and in streams.
func TestTurned(t *testing.T) {
	for _, l := range [][]entry{
		nil,
		entriesOf([]api.File{{Name: "a", Data: []byte("xyz")}}),
		{entryOf(api.File{Name: "d", Dir: true}, nil), entryOf(api.File{Name: "d/e", Data: []byte("aaaaaaaaaaaa")}, must(deflate.Encode([]byte("aaaaaaaaaaaa"), 9)))},
		{entryOf(api.File{Name: "n"}, []byte{3, 0}), entryOf(api.File{Name: "n0", Data: []byte("n/")}, must(deflate.Stored([]byte("n/"))))},
		entriesOf([]api.File{{Name: "aa"}, {Name: "ab", Dir: true}, {Name: "ab/a"}}),
	} {
		b := laid(l).b
		archives := 0
		for at := range b {
			is := b[at]
			for x := range 256 {
				b[at] = byte(x)
				if alike(t, b) {
					archives++
				}
			}
			b[at] = is
		}
		if archives < len(b) {
			t.Errorf("only %d are archives", archives)
		}
	}
}

// anyFile tells a file that may often stand beside those that are told ahead.
func anyFile(seed *uint32) api.File {
	names := []string{"a", "b", "c", "d", "d/e", "d/f", "d/g/h", "i j", "k.txt", "l/m/n/o"}
	f := api.File{Name: names[rising(seed)%len(names)] + strings.Repeat("z", rising(seed)%6)}
	if rising(seed)%100 == 0 {
		f.Name += []string{"/", "//", "\\", "/.", "\x7f"}[rising(seed)%5]
	}
	if f.Dir = rising(seed)%4 == 0; f.Dir {
		return f
	}
	f.Data = some(rising(seed)%40, *seed)
	if rising(seed)%2 == 0 {
		f.Data = bytes.Repeat([]byte{byte(rising(seed))}, rising(seed)%300)
	}
	return f
}

// anyEntry tells the entry of a file, packed in any way, or nearly so.
func anyEntry(f api.File, seed *uint32) entry {
	if f.Dir && rising(seed)%40 > 0 {
		return entryOf(f, nil)
	}
	switch rising(seed) % 8 {
	case 0:
		return entryOf(f, must(deflate.Stored(f.Data)))
	case 1, 2:
		return entryOf(f, must(deflate.Encode(f.Data, 1)))
	case 3:
		if rising(seed)%10 == 0 {
			return entryOf(f, append(must(deflate.Encode(f.Data, 1)), 0))
		}
	}
	return entryOf(f, nil)
}

// shaken tells an archive, in which now and then something is another one than it should be.
func shaken(a layout, seed *uint32) []byte {
	b := slices.Clone(a.b)
	switch kind := rising(seed) % 24; {
	case kind < 3:
		b[rising(seed)%len(b)] ^= 1 << (rising(seed) % 8)
	case kind < 5:
		b[a.end+rising(seed)%22] ^= 1 << (rising(seed) % 8)
	case kind < 7 && len(a.centrals) > 0:
		at := a.centrals[rising(seed)%len(a.centrals)]
		b[at+rising(seed)%46] ^= 1 << (rising(seed) % 8)
	case kind < 9 && len(a.locals) > 0:
		at := a.locals[rising(seed)%len(a.locals)]
		b[at+rising(seed)%30] ^= 1 << (rising(seed) % 8)
	case kind == 9:
		at := rising(seed) % (len(b) + 1)
		b = slices.Insert(b, at, some(1+rising(seed)%30, *seed)...)
	case kind == 10:
		at := rising(seed) % len(b)
		b = slices.Delete(b, at, min(at+1+rising(seed)%60, len(b)))
	case kind == 11:
		at := rising(seed) % (len(b) + 1)
		b = slices.Insert(b, at, b[at:min(at+rising(seed)%100, len(b))]...)
	}
	return b
}

// P15.3: archives of any files, packed in any way, and bytes that are nearly an archive.
func TestWorded(t *testing.T) {
	var seed uint32 = 15
	archives, none := 0, 0
	for range 30000 {
		var l []entry
		for range rising(&seed) % 5 {
			l = append(l, anyEntry(anyFile(&seed), &seed))
		}
		if alike(t, shaken(laid(l), &seed)) {
			archives++
		} else {
			none++
		}
	}
	if archives < 8000 || none < 8000 {
		t.Errorf("the test finds %d archives, and %d that are none", archives, none)
	}
}

// What is written is ZIP: Go's own reader finds all of it.
func TestZip(t *testing.T) {
	l := ordinary()
	b := must(Write(l, 32))
	archive, err := gozip.NewReader(bytes.NewReader(b), int64(len(b)))
	if err != nil || len(archive.File) != len(l) {
		t.Fatal(err)
	}
	for i, f := range archive.File {
		name := l[i].Name
		if l[i].Dir {
			name += "/"
		}
		r, err := f.Open()
		if err != nil {
			t.Fatal(err)
		}
		data, err := io.ReadAll(r)
		if err != nil || f.Name != name || !bytes.Equal(data, l[i].Data) || f.FileInfo().IsDir() != l[i].Dir {
			t.Errorf("%s: %.100x, %v", f.Name, data, err)
		}
	}
}

// What Go's own writer lays is parsed, with streams of Go's own, if nothing is in it that is ruled out.
func TestZipBack(t *testing.T) {
	l := ordinary()
	for _, level := range []int{flate.NoCompression, flate.BestSpeed, flate.BestCompression, flate.HuffmanOnly} {
		var out bytes.Buffer
		w := gozip.NewWriter(&out)
		for i, f := range l {
			e := entryOf(f, nil)
			if !f.Dir && i%3 > 0 {
				e = entryOf(f, flated(t, f.Data, level))
			}
			part, err := w.CreateRaw(&gozip.FileHeader{Name: e.name, Method: uint16(e.method), CRC32: crc32.ChecksumIEEE(e.data), CompressedSize64: uint64(len(e.packed)), UncompressedSize64: uint64(len(e.data))})
			if err != nil {
				t.Fatal(err)
			}
			if _, err := part.Write(e.packed); err != nil {
				t.Fatal(err)
			}
		}
		if err := w.Close(); err != nil {
			t.Fatal(err)
		}
		parsed(t, out.Bytes(), l)
	}
}

// flated tells a stream of Go's own writer.
func flated(t *testing.T, data []byte, level int) []byte {
	t.Helper()
	var out bytes.Buffer
	w, err := flate.NewWriter(&out, level)
	if err != nil {
		t.Fatal(err)
	}
	if _, err := w.Write(data); err != nil {
		t.Fatal(err)
	}
	if err := w.Close(); err != nil {
		t.Fatal(err)
	}
	return out.Bytes()
}
