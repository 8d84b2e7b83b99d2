package zip

import (
	"bytes"
	"errors"
	"math"
	"slices"
	"strconv"
	"strings"
	"testing"

	"valise/api"
	"valise/deflate"
)

// rising tells the next number that follows no simple pattern.
func rising(seed *uint32) int {
	*seed ^= *seed << 13
	*seed ^= *seed >> 17
	*seed ^= *seed << 5
	return int(*seed >> 1)
}

// some tells n bytes in no simple order, others for each seed: as a stream they would have no fewer.
func some(n int, seed uint32) []byte {
	seed = 2*seed + 1
	b := make([]byte, n)
	for k := range b {
		b[k] = byte(rising(&seed) >> 8)
	}
	return b
}

// told tells files, for a test's own text.
func told(l []api.File) string {
	var b strings.Builder
	for _, f := range l {
		b.WriteString(strconv.Quote(f.Name) + " " + strconv.FormatBool(f.Dir) + " " + strconv.Itoa(len(f.Data)) + "; ")
	}
	return b.String()[:min(b.Len(), 500)]
}

// same tells whether files are the same ones. No bytes are none, whatever they are kept as.
func same(l, m []api.File) bool {
	return slices.EqualFunc(l, m, func(f, g api.File) bool {
		return f.Name == g.Name && f.Dir == g.Dir && bytes.Equal(f.Data, g.Data)
	})
}

// copied tells files in memory of their own.
func copied(l []api.File) []api.File {
	m := slices.Clone(l)
	for k := range m {
		m[k].Data = slices.Clone(m[k].Data)
	}
	return m
}

// is fails if an error is another one.
func is(t *testing.T, what string, err, want api.Errno) {
	t.Helper()
	if err != want {
		t.Fatalf("%s: error %d, want error %d", what, err, want)
	}
}

// must is an answer of a call that may not fail.
func must(b []byte, err api.Errno) []byte {
	if err != api.OK {
		panic("error " + strconv.Itoa(int(err)))
	}
	return b
}

// parsed fails if bytes are not an archive of these files.
func parsed(t *testing.T, b []byte, want []api.File) {
	t.Helper()
	files, err := Parse(b)
	if err != api.OK || !same(files, want) {
		t.Fatalf("Parse(%.100x): %s error %d, want %s", b, told(files), err, told(want))
	}
}

// unparsed fails if bytes are an archive, or are refused with another error.
func unparsed(t *testing.T, what string, b []byte, want api.Errno) {
	t.Helper()
	files, err := Parse(b)
	if err != want || files != nil {
		t.Fatalf("%s: Parse(%.100x): %s error %d, want error %d", what, b, told(files), err, want)
	}
}

// none fails if bytes are an archive.
func none(t *testing.T, what string, b []byte) {
	t.Helper()
	unparsed(t, what, b, api.ErrFormat)
}

// unwritten fails if an archive is written, or refused with another error.
func unwritten(t *testing.T, l []api.File, depth int, want api.Errno) {
	t.Helper()
	b, err := Write(l, depth)
	if err != want || b != nil {
		t.Fatalf("Write(%s, %d): %d bytes, error %d, want error %d", told(l), depth, len(b), err, want)
	}
}

// file is a file of that name.
func file(name, data string) api.File { return api.File{Name: name, Data: []byte(data)} }

// dir is a directory of that name.
func dir(name string) api.File { return api.File{Name: name, Dir: true} }

// numbered tells n files of other names each, of as many bytes.
func numbered(n, size int) []api.File {
	var l []api.File
	for k := range n {
		l = append(l, api.File{Name: "f" + strconv.Itoa(k), Data: some(size, uint32(k))})
	}
	return l
}

// longest is a path of 120 bytes: names of 32, 32, 32 and 21 bytes.
func longest() string {
	name := strings.Repeat("n", 32) + "/"
	return name + name + name + strings.Repeat("n", 21)
}

// ordinary are files of all kinds: in directories that are there and such that are not, of few bytes and many, of bytes that pack well and such that do not.
func ordinary() []api.File {
	return []api.File{
		file("a", "some bytes"), dir("d"), file("d/e.txt", ""), file("d/e", strings.Repeat("more of them, ", 300)), dir("g"),
		file("not/there", "x"), {Name: "zeros", Data: make([]byte, 65536)}, {Name: "any", Data: some(65536, 3)}, dir("1/2/3/4/5/6/7/8"), file("a b", "aaa"), {Name: "~ ~", Data: some(1000, 4)},
	}
}

// rights are lists of files that are right: ordinary ones, and each edge.
func rights() [][]api.File {
	l := [][]api.File{
		nil, {}, ordinary(), {file("a", "")}, {dir("a")}, {{Name: "a", Dir: true, Data: []byte{}}}, {file("a", "x"), file("b", "x")},
		{file("a", ""), file("ab", ""), file("a b", ""), file("a.", ""), file("a-", ""), file("A", ""), file("b/a", "")},
		{dir("a"), file("a/b", ""), dir("a/c"), file("a/c/d", "")}, {file("a/c/d", ""), dir("a/c"), file("a/b", ""), dir("a")}, {file("a/b", ""), file("a/c", "")}, {dir("a/b"), dir("a/b/c/d"), dir("a")},
		{file("a/b/c", ""), file("a/b/cc", ""), file("a/bb", ""), file("aa", "")}, {file("...", ""), file("-", ""), file(" ", ""), file("~", ""), file("..a", ""), file("a..", "")},
		{file(longest(), "x")}, {dir(longest())}, {file("a/b/c/d/e/f/g/h", "x")}, {dir("a/b/c/d/e/f/g/h")}, {file(strings.Repeat("n", 32), "x")},
		{{Name: "most", Data: make([]byte, 65536)}}, {{Name: "next", Data: make([]byte, 65535)}}, numbered(127, 2), numbered(128, 40),
	}
	var all []api.File
	for c := 32; c < 127; c++ {
		if c != '/' && c != '\\' && c != '.' {
			all = append(all, file(string(rune(c)), ""))
		}
	}
	return append(l, all)
}

// refusal is a list of files that is not right, and why.
type refusal struct {
	l   []api.File
	err api.Errno
}

// wrongNames are names that no file may have.
func wrongNames() []string {
	l := []string{"", "/", "//", "a/", "/a", "a//b", "a/b/", ".", "..", "a/.", "a/..", "./a", "../a", "a/../b", "\\", "a\\b", "a\x00", "a\x1f", "\x7f", "\x80", "\xff", "é", "a/é/b", "\n"}
	l = append(l, strings.Repeat("n", 33), "a/"+strings.Repeat("n", 33)+"/b", longest()+"n", longest()+"/n", "a/b/c/d/e/f/g/h/i", strings.Repeat("a/", 40)+"a")
	return append(l, strings.Repeat("n", 121), strings.Repeat("n/", 70000)+"n", strings.Repeat("n", 1<<20))
}

// wrongFiles are files that may be in no archive, and why.
func wrongFiles() []refusal {
	var l []refusal
	for _, name := range wrongNames() {
		l = append(l, refusal{[]api.File{file(name, "x")}, api.ErrName}, refusal{[]api.File{dir(name)}, api.ErrName})
	}
	for _, data := range [][]byte{{0}, []byte("xyz"), make([]byte, 65536), make([]byte, 65537)} {
		l = append(l, refusal{[]api.File{{Name: "wrong", Dir: true, Data: data}}, api.ErrDir})
	}
	for _, n := range []int{65537, 65538, 70000, 1 << 20} {
		l = append(l, refusal{[]api.File{{Name: "wrong", Data: make([]byte, n)}}, api.ErrTooLarge})
	}
	return l
}

// wrongLists are lists of files each of which may be, but not beside each other, and why.
func wrongLists() []refusal {
	a, b, under := file("a", "x"), file("b", ""), file("a/b", "y")
	l := []refusal{
		{[]api.File{a, a}, api.ErrExists}, {[]api.File{a, dir("a")}, api.ErrExists}, {[]api.File{dir("a"), a}, api.ErrExists}, {[]api.File{dir("a"), dir("a")}, api.ErrExists},
		{[]api.File{a, b, a}, api.ErrExists}, {[]api.File{b, a, dir("c"), under, dir("a")}, api.ErrExists}, {[]api.File{dir("a"), under, b, under}, api.ErrExists},
		{[]api.File{a, under}, api.ErrFile}, {[]api.File{under, a}, api.ErrFile}, {[]api.File{a, dir("a/b")}, api.ErrFile}, {[]api.File{dir("a/b"), a}, api.ErrFile},
		{[]api.File{b, file("a/b/c/d/e/f/g/h", ""), dir("a/b"), a}, api.ErrFile}, {[]api.File{dir("a"), file("a/b/c/d", ""), under}, api.ErrFile},
		{[]api.File{a, under, a}, api.ErrExists}, {[]api.File{a, under, b, b}, api.ErrExists}, {[]api.File{b, b, a, under}, api.ErrExists},
		{append(numbered(126, 1), a, under), api.ErrFile}, {append([]api.File{dir("f9"), dir("f8"), under}, numbered(100, 1)...), api.ErrExists}, {append([]api.File{file("f9/x", "")}, numbered(100, 1)...), api.ErrFile},
	}
	deep := "a/b/c/d/e/f/g/h"
	for at := 1; at < len(deep); at += 2 {
		l = append(l, refusal{[]api.File{file(deep, ""), file(deep[:at], "")}, api.ErrFile}, refusal{[]api.File{file(deep[:at], "x"), dir("z"), dir(deep)}, api.ErrFile})
	}
	return l
}

// The chapter's examples.
func TestExample(t *testing.T) {
	for _, l := range [][]api.File{nil, {}} {
		b := must(Write(l, 1))
		if want := append([]byte{0x50, 0x4b, 5, 6}, make([]byte, 18)...); !bytes.Equal(b, want) {
			t.Errorf("Write of nothing: %x", b)
		}
		parsed(t, b, nil)
	}
	if b := must(Write([]api.File{dir("d")}, 1)); len(b) != 30+2+46+2+22 {
		t.Errorf("Write of a directory: %x", b)
	}
	is(t, "a and a/b", Check([]api.File{file("a", "x"), file("a/b", "x")}), api.ErrFile)
	is(t, "a and a", Check([]api.File{file("a", "x"), file("a", "x")}), api.ErrExists)
	none(t, "nothing", nil)
	none(t, "nothing", []byte{})
}

// P15.1: what is right.
func TestCheck(t *testing.T) {
	for _, l := range rights() {
		is(t, told(l), Check(l), api.OK)
	}
}

// P15.1: what is too many, whatever it is.
func TestCheckMany(t *testing.T) {
	for _, n := range []int{129, 130, 200, 256, 384, 1000} {
		is(t, "too many", Check(numbered(n, 0)), api.ErrTooLarge)
		is(t, "too many without a name", Check(make([]api.File, n)), api.ErrTooLarge)
		is(t, "too many of one name", Check(slices.Repeat([]api.File{file("a", "x")}, n)), api.ErrTooLarge)
	}
	is(t, "128 without a name", Check(make([]api.File, 128)), api.ErrName)
	is(t, "128 of one name", Check(slices.Repeat([]api.File{file("a", "x")}, 128)), api.ErrExists)
}

// P15.1: a file that may be in no archive, wherever it stands.
func TestCheckFiles(t *testing.T) {
	for _, c := range wrongFiles() {
		is(t, told(c.l), Check(c.l), c.err)
		for _, at := range []int{0, 1, 60, 127} {
			is(t, told(c.l), Check(slices.Insert(numbered(127, 0), at, c.l...)), c.err)
		}
	}
	is(t, "no name, and bytes of a directory", Check([]api.File{{Dir: true, Data: []byte("x")}}), api.ErrName)
	is(t, "no name, and too many bytes", Check([]api.File{{Data: make([]byte, 65537)}}), api.ErrName)
}

// P15.1: file by file: of several ones that may be in no archive the first one is told, whatever the others are.
func TestCheckOrder(t *testing.T) {
	kinds := []refusal{{[]api.File{file("a/", "x")}, api.ErrName}, {[]api.File{{Name: "w", Dir: true, Data: []byte("x")}}, api.ErrDir}, {[]api.File{{Name: "v", Data: make([]byte, 65537)}}, api.ErrTooLarge}}
	for _, c := range kinds {
		for _, other := range kinds {
			is(t, "two", Check(slices.Concat(c.l, other.l)), c.err)
			is(t, "two between others", Check(slices.Concat(numbered(3, 0), c.l, []api.File{file("n", "")}, other.l)), c.err)
		}
		for _, list := range wrongLists() {
			if len(list.l) < 128 {
				is(t, told(list.l), Check(slices.Concat(c.l, list.l)), c.err)
				is(t, told(list.l), Check(slices.Concat(list.l, c.l)), c.err)
			}
		}
	}
}

// P15.1: files that may not stand beside each other.
func TestCheckLists(t *testing.T) {
	for _, c := range wrongLists() {
		is(t, told(c.l), Check(c.l), c.err)
	}
}

// packings are the entries of files, packed as the chapter words it: as a stream where that has fewer bytes.
func packings(l []api.File, depth int) []entry {
	var entries []entry
	for _, f := range l {
		stream := must(deflate.Encode(f.Data, depth))
		if len(stream) >= len(f.Data) {
			stream = nil
		}
		entries = append(entries, entryOf(f, stream))
	}
	return entries
}

// P15.2, P15.4: what is written is laid as the chapter words it, and is parsed again.
func TestWrite(t *testing.T) {
	for _, l := range rights() {
		for _, depth := range []int{1, 2, 32, 4095, 4096} {
			b := must(Write(l, depth))
			if want := laid(packings(l, depth)).b; !bytes.Equal(b, want) {
				t.Fatalf("Write(%s, %d): %.200x, want %.200x", told(l), depth, b, want)
			}
			parsed(t, b, l)
		}
	}
}

// P15.2, P15.4: bytes of each length, of those that pack well and those that do not: a stream is there just where it has fewer bytes.
func TestWriteMethod(t *testing.T) {
	for n := range 300 {
		for _, data := range [][]byte{make([]byte, n), some(n, uint32(n)), []byte(strings.Repeat("ab", n)[:n]), slices.Concat(some(n/2, 7), make([]byte, n-n/2))} {
			l := []api.File{{Name: "a", Data: data}}
			b := must(Write(l, 32))
			parsed(t, b, l)
			method, packed := get2(b, 8), get4(b, 18)
			if stream := must(deflate.Encode(data, 32)); method == 8 != (len(stream) < n) || method == 8 && packed >= n || method == 0 && packed != n || len(b) != 30+1+packed+46+1+22 {
				t.Fatalf("%d bytes %.100x: method %d, %d bytes packed", n, data, method, packed)
			}
		}
	}
	for _, c := range []struct {
		data []byte
		most int
	}{{make([]byte, 65536), 24 + 655}, {bytes.Repeat([]byte("x"), 1000), 34}, {nil, 0}, {[]byte("a"), 1}, {some(65536, 1), 65536}} {
		if b := must(Write([]api.File{{Name: "a", Data: c.data}}, 4096)); len(b) > 100+c.most {
			t.Errorf("%d bytes: %d in the archive", len(c.data), len(b))
		}
	}
}

// P15.2: first Check's errors, then the depth's.
func TestWriteWrong(t *testing.T) {
	depths := []int{0, -1, -4096, 4097, 4098, 65536, 1<<32 + 1, math.MinInt, math.MaxInt}
	for _, depth := range depths {
		for _, l := range [][]api.File{nil, {}, {dir("d")}, {file("a", "")}, {file("a", "x")}, numbered(128, 9)} {
			unwritten(t, l, depth, api.ErrArg)
		}
	}
	for _, c := range slices.Concat(wrongFiles(), wrongLists(), []refusal{{numbered(129, 0), api.ErrTooLarge}}) {
		for _, depth := range []int{1, 4096, 0, 4097, math.MinInt} {
			unwritten(t, c.l, depth, c.err)
		}
	}
	unwritten(t, numbered(17, 65536), 0, api.ErrArg)
}

// sized tells files whose archive has so many bytes more, or fewer, than it may have. None of them packs.
func sized(more int) []api.File {
	l := append(numbered(15, 65536), dir("d"), file("last", ""))
	left := api.MaxArchive - len(laid(entriesOf(l)).b)
	l[len(l)-1].Data = some(left+more, 99)
	return l
}

// P15.2, P15.3: an archive of just as many bytes as may be, and one of one more.
func TestLarge(t *testing.T) {
	for _, more := range []int{0, -1} {
		l := sized(more)
		b := must(Write(l, 1))
		if len(b) != 1<<20+more {
			t.Errorf("%d bytes, not %d more than 1048576", len(b), more)
		}
		parsed(t, b, l)
	}
	for _, more := range []int{1, 22, 60} {
		l := sized(more)
		is(t, "files of many bytes", Check(l), api.OK)
		unwritten(t, l, 1, api.ErrTooLarge)
		unparsed(t, "too large", laid(entriesOf(l)).b, api.ErrTooLarge)
	}
	l := sized(1)
	slices.Reverse(l)
	unwritten(t, l, 1, api.ErrTooLarge)
	unwritten(t, append(l, dir("e"), file("f", "")), 1, api.ErrTooLarge)
	unwritten(t, numbered(128, 65536), 1, api.ErrTooLarge)
}

// P15.2, P15.4: as many bytes as there may be in all files, which pack well.
func TestPacked(t *testing.T) {
	var l []api.File
	for k := range 128 {
		l = append(l, api.File{Name: longest()[:110] + strconv.Itoa(k), Data: bytes.Repeat([]byte{byte(k)}, 65536)})
	}
	b := must(Write(l, 1))
	if len(b) > 128*(30+46+2*113+24+655)+22 {
		t.Errorf("the archive has %d bytes", len(b))
	}
	parsed(t, b, l)
}

// P15.3: more bytes than may be, whatever they are.
func TestParseLarge(t *testing.T) {
	whole := must(Write(ordinary(), 32))
	for _, n := range []int{1<<20 + 1, 1<<20 + 2, 1 << 21} {
		unparsed(t, "zeros", make([]byte, n), api.ErrTooLarge)
		unparsed(t, "any", some(n, 1), api.ErrTooLarge)
		unparsed(t, "an archive, and zeros", append(slices.Clone(whole), make([]byte, n-len(whole))...), api.ErrTooLarge)
		unparsed(t, "zeros, and an archive", append(make([]byte, n-len(whole)), whole...), api.ErrTooLarge)
	}
	for _, n := range []int{1 << 20, 1<<20 - 1, 100, 23, 22, 21, 1} {
		none(t, "zeros", make([]byte, n))
		none(t, "any", some(n, 1))
	}
	none(t, "an archive, and zeros", append(slices.Clone(whole), make([]byte, 1<<20-len(whole))...))
}

// changed tells bytes with some of them others.
func changed(b []byte, at int, more ...byte) []byte {
	l := slices.Clone(b)
	copy(l[at:], more)
	return l
}

// twoFiles are a file that is packed and one that is not.
func twoFiles() ([]api.File, layout) {
	l := []api.File{file("abc", "xyzw"), file("d", strings.Repeat("a", 99))}
	return l, laid(packings(l, 9))
}

// P15.3: what may be any in headers.
func TestParseAny(t *testing.T) {
	l, a := twoFiles()
	parsed(t, a.b, l)
	for k := range l {
		local, central := a.locals[k], a.centrals[k]
		for _, b := range [][]byte{
			changed(a.b, local+4, 0), changed(a.b, local+4, 19), changed(a.b, local+10, 255, 255), changed(a.b, local+12, 0, 0), changed(a.b, local+10, 1, 2, 3, 4),
			changed(a.b, central+4, 63, 3), changed(a.b, central+6, 10), changed(a.b, central+12, 1, 2, 3, 4), changed(a.b, central+36, 1, 0), changed(a.b, central+36, 1, 2, 3, 4, 5, 6), changed(a.b, central+38, 16), changed(a.b, central+38, 0, 0, 255, 255),
		} {
			parsed(t, b, l)
		}
	}
	d := laid(entriesOf([]api.File{dir("d")}))
	parsed(t, changed(d.b, d.centrals[0]+38, 0), []api.File{dir("d")})
}

// P15.3: a stream is any one that tells the bytes, all of it.
func TestParseStream(t *testing.T) {
	for _, data := range [][]byte{nil, []byte("a"), []byte("abcabcabcabc"), some(100, 1), make([]byte, 65535), make([]byte, 65536), some(65536, 2)} {
		f := []api.File{{Name: "a", Data: data}}
		literals := make([]api.Token, len(data))
		for k, x := range data {
			literals[k].Lit = x
		}
		for _, stream := range [][]byte{must(deflate.Stored(data)), must(deflate.Fixed(literals)), must(deflate.Dynamic(literals)), must(deflate.Encode(data, 9))} {
			parsed(t, laid([]entry{entryOf(f[0], stream)}).b, f)
			for _, behind := range [][]byte{{0}, {3, 0}, {1, 0, 0, 255, 255}, some(50, 3)} {
				none(t, "bytes behind a stream", laid([]entry{entryOf(f[0], slices.Concat(stream, behind))}).b)
			}
			none(t, "a byte ahead of a stream", laid([]entry{entryOf(f[0], slices.Concat([]byte{6}, stream))}).b)
			none(t, "a stream without its last byte", laid([]entry{entryOf(f[0], stream[:len(stream)-1])}).b)
			none(t, "no stream", laid([]entry{entryOf(f[0], []byte{})}).b)
			none(t, "no stream, but the bytes", laid([]entry{entryOf(f[0], some(len(data), 5))}).b)
		}
	}
}

// P15.3: both headers say something else than what the bytes are.
func TestParseLies(t *testing.T) {
	l, a := twoFiles()
	both := func(k, local, central int, more ...byte) []byte {
		return changed(changed(a.b, a.locals[k]+local, more...), a.centrals[k]+central, more...)
	}
	for k, f := range l {
		size, packed := a.b[a.locals[k]+22], a.b[a.locals[k]+18]
		for _, x := range []byte{1, 2, 4, 8, 16, 32, 64, 128, 255} {
			none(t, "a sum", both(k, 14, 16, a.b[a.locals[k]+14]^x))
			none(t, "a sum", both(k, 17, 19, a.b[a.locals[k]+17]^x))
			none(t, "a size", both(k, 22, 24, size^x))
			none(t, "a size", both(k, 25, 27, x))
			none(t, "how many are packed", both(k, 18, 20, packed^x))
			none(t, "how many are packed", both(k, 21, 23, x))
		}
		none(t, "the method", both(k, 8, 10, 8-a.b[a.locals[k]+8]))
		none(t, "all bytes, whose sum is that of none", both(k, 14, 16, 0, 0, 0, 0))
		if f.Name == "abc" {
			none(t, "both sizes", changed(both(k, 18, 20, 3), a.locals[k]+22, 3))
		}
	}
	none(t, "a name", both(0, 30, 46, 'x', 'y', '/'))
	for _, e := range []entry{{name: "d/", method: 8, packed: []byte{3, 0}}, {name: "d/", method: 8}, {name: "d/", packed: []byte("x"), data: []byte("x")}, {name: "d/", packed: make([]byte, 65537), data: make([]byte, 65537)}, {name: "d/", method: 8, packed: []byte{0x4b, 4, 0}, data: []byte("a")}} {
		none(t, "a directory that is packed, or has bytes", laid([]entry{e}).b)
	}
}

// P15.3: a central header says something else than the local one, or stands elsewhere.
func TestParseCentral(t *testing.T) {
	_, a := twoFiles()
	for k, central := range a.centrals {
		for _, at := range []int{0, 1, 2, 3, 7, 8, 9, 10, 11, 16, 17, 18, 19, 20, 21, 22, 23, 24, 25, 26, 27, 28, 29, 30, 31, 32, 33, 34, 35, 42, 43, 44, 45, 46} {
			for _, x := range []byte{1, 2, 8, 32, 128} {
				none(t, "a central header with another byte at "+strconv.Itoa(at), changed(a.b, central+at, a.b[central+at]^x))
			}
		}
		none(t, "the other one's place", changed(a.b, central+42, byte(a.locals[1-k])))
	}
	one, other := a.b[a.centrals[0]:a.centrals[1]], a.b[a.centrals[1]:a.end]
	none(t, "central headers in another order", slices.Concat(a.b[:a.centrals[0]], other, one, a.b[a.end:]))
	none(t, "one central header twice", slices.Concat(a.b[:a.centrals[0]], one, one, a.b[a.end:]))
	none(t, "a directory there, a file here", func() []byte {
		d := laid([]entry{{name: "d/"}})
		return changed(d.b, d.centrals[0]+47, 'd')
	}())
}

// endOf tells an archive whose end says so, instead of what it is.
func endOf(a layout, count, size, at int) []byte {
	number := func(n int) []byte { return []byte{byte(n), byte(n >> 8), byte(n >> 16), byte(n >> 24)} }
	return slices.Concat(a.b[:a.end+8], number(count)[:2], number(count)[:2], number(size), number(at), a.b[a.end+20:])
}

// P15.3: the end says something else than there is.
func TestParseEnd(t *testing.T) {
	l, a := twoFiles()
	begin, size := a.centrals[0], a.end-a.centrals[0]
	parsed(t, endOf(a, 2, size, begin), l)
	for _, n := range []int{0, 1, 3, 4, 128, 129, 258, 65535} {
		none(t, "how many entries", endOf(a, n, size, begin))
	}
	for _, n := range []int{-1, 1, -2, 2, 256, 65536, 1 << 24, 1 << 31, -46, 46, -size} {
		none(t, "how many bytes", endOf(a, 2, size+n, begin))
		none(t, "where they begin", endOf(a, 2, size, begin+n))
		none(t, "both", endOf(a, 2, size+n, begin-n))
		none(t, "both", endOf(a, 2, size-n, begin+n))
		none(t, "both", endOf(a, 2, size+n, begin+n))
	}
	none(t, "nothing of both", endOf(a, 0, 0, 0))
	none(t, "one entry", endOf(a, 1, a.centrals[1]-a.centrals[0], begin))
	for _, at := range []int{0, 1, 2, 3, 4, 5, 6, 7, 20, 21} {
		none(t, "another byte at "+strconv.Itoa(at), changed(a.b, a.end+at, a.b[a.end+at]^1))
	}
	none(t, "no end", a.b[:a.end])
	none(t, "two ends", append(slices.Clone(a.b), a.b[a.end:]...))
	empty := laid(nil)
	for _, n := range []int{1, 22, 65535} {
		none(t, "an end of none that counts some bytes", endOf(empty, 0, n, 0))
		none(t, "an end of none that stands elsewhere", endOf(empty, 0, 0, n))
		none(t, "an end of more than there are", endOf(empty, n, 0, 0))
	}
}

// P15.3: archives, but of lists that are not right.
func TestParseWrong(t *testing.T) {
	for _, c := range slices.Concat(wrongFiles(), wrongLists()) {
		if len(c.l[0].Name) < 65535 {
			b := laid(entriesOf(c.l)).b
			want := api.ErrFormat
			if len(b) > 1<<20 {
				want = api.ErrTooLarge
			}
			unparsed(t, told(c.l), b, want)
		}
	}
	none(t, "a file and a directory of one name", laid([]entry{{name: "a"}, {name: "a/"}}).b)
	none(t, "the root", laid([]entry{{name: "/"}}).b)
	parsed(t, laid([]entry{{name: longest() + "/"}}).b, []api.File{dir(longest())})
}

// P15.3: as many files as may be, and more; as many bytes as a file may have, and more.
func TestParseMany(t *testing.T) {
	for _, n := range []int{1, 127, 128} {
		parsed(t, laid(entriesOf(numbered(n, 3))).b, numbered(n, 3))
	}
	for _, n := range []int{129, 130, 256, 300, 384, 2000} {
		none(t, "too many", laid(entriesOf(numbered(n, 3))).b)
	}
	for _, n := range []int{65535, 65536, 65537, 65538, 131072} {
		f := api.File{Name: "a", Data: make([]byte, n)}
		// A stored block has too many bytes for a stream of one alone.
		part := must(deflate.Stored(make([]byte, min(n, 65535))))
		stream := append(part[:len(part)-5:len(part)-5], must(deflate.Stored(f.Data[min(n, 65535):min(n, 131070)]))...)
		if n == 131072 {
			stream = append(stream[:len(stream)-5], 1, 2, 0, 253, 255, 0, 0)
		}
		for _, b := range [][]byte{laid([]entry{entryOf(f, nil)}).b, laid([]entry{entryOf(f, stream)}).b} {
			if n > 65536 {
				none(t, "too many bytes", b)
			} else {
				parsed(t, b, []api.File{f})
			}
		}
	}
}

// P15.4: many lists of files, with any depth.
func TestBack(t *testing.T) {
	var seed uint32 = 4
	for range 1500 {
		var l []api.File
		for range rising(&seed) % 12 {
			if m := append(l, anyFile(&seed)); Check(m) == api.OK {
				l = m
			}
		}
		b := must(Write(l, 1+rising(&seed)%4096))
		parsed(t, b, l)
		if want, err := wordedParse(b); err != api.OK || !same(want, l) {
			t.Fatalf("Write(%s): %x", told(l), b)
		}
	}
}

// small are archives of few bytes.
func small() [][]byte {
	inner := must(Write([]api.File{file("a", "b")}, 1))
	return [][]byte{
		must(Write(nil, 1)), must(Write([]api.File{dir("d")}, 1)), must(Write([]api.File{file("a", "xyz")}, 1)), must(Write([]api.File{file("a", "PK\x05\x06"), file("b", ""), dir("c")}, 1)),
		must(Write([]api.File{file("a", strings.Repeat("a", 50)), file("b", "PK\x03\x04")}, 1)), must(Write([]api.File{{Name: "inner", Data: inner}}, 1)), laid(entriesOf([]api.File{{Name: "inner", Data: must(Write(nil, 1))}})).b, laid(entriesOf([]api.File{{Name: "i", Data: inner}, {Name: "k", Data: inner}})).b,
	}
}

// P15.5: with bytes behind or ahead there is no other archive, whatever they are.
func TestOne(t *testing.T) {
	for _, b := range small() {
		more := append(small(), []byte{0}, []byte{0, 0}, make([]byte, 22), []byte("P"), []byte("PK\x05\x06"), []byte("PK\x03\x04"), some(100, 1), b[:len(b)-22], b[len(b)-1:], b[:1], b[:len(b)-1])
		for _, m := range more {
			if len(m) > 0 {
				none(t, "bytes behind", slices.Concat(b, m))
				none(t, "bytes ahead", slices.Concat(m, b))
				none(t, "bytes ahead and behind", slices.Concat(m, b, m))
			}
		}
		for x := range 256 {
			none(t, "a byte behind", append(slices.Clone(b), byte(x)))
			none(t, "a byte ahead", append([]byte{byte(x)}, b...))
		}
	}
}

// P15.5: bytes in a row that are left out, or one that is put in, make no other archive.
func TestLeftOut(t *testing.T) {
	for _, b := range small() {
		for at := range b {
			for behind := at + 1; behind <= len(b); behind++ {
				none(t, "bytes left out", slices.Concat(b[:at], b[behind:]))
			}
			for _, x := range []byte{0, 1, 8, 'P', 255, b[at]} {
				none(t, "a byte between", slices.Insert(slices.Clone(b), at, x))
			}
		}
	}
}

// P15.6: each byte of Data that is not packed is each other one.
func TestTurnedData(t *testing.T) {
	for _, l := range [][]api.File{{file("a", "x")}, {file("a", "xyz"), file("b", ""), {Name: "c", Data: some(100, 1)}}, {{Name: "inner", Data: laid(entriesOf([]api.File{file("a", "xyz")})).b}}, {{Name: "k", Data: some(400, 2)}}} {
		a := laid(entriesOf(l))
		parsed(t, a.b, l)
		for k, f := range l {
			begin := a.locals[k] + 30 + len(f.Name)
			for at := begin; at < begin+len(f.Data); at++ {
				is := a.b[at]
				for x := 1; x < 256; x++ {
					a.b[at] = is ^ byte(x)
					none(t, "a byte of Data", a.b)
				}
				a.b[at] = is
			}
		}
		parsed(t, a.b, l)
	}
	large := []api.File{{Name: "a", Data: some(65536, 5)}}
	a := must(Write(large, 1))
	for at := 31; at < 31+65536; at += 997 {
		for _, x := range []byte{1, 16, 128, 255} {
			none(t, "a byte of Data", changed(a, at, a[at]^x))
		}
	}
}

// What is handed in is neither changed nor kept, what stands behind it neither, and an answer is new memory.
func TestApart(t *testing.T) {
	files := ordinary()
	whole := must(Write(files, 9))
	memory := copied(append(files, file("a", "x"), dir("")))
	for k := range memory {
		memory[k].Data = append(memory[k].Data, "behind"...)[:len(memory[k].Data)]
	}
	l, kept := memory[:len(files)], copied(memory)
	is(t, "Check", Check(l), api.OK)
	b := must(Write(l, 9))
	if !same(memory, kept) || !bytes.Equal(b, whole) {
		t.Error("Write changes what is handed in, or reads behind it")
	}
	for k := range memory {
		if f := memory[k]; k < len(l) && string(f.Data[:len(f.Data)+6][len(f.Data):]) != "behind" {
			t.Error("Write changes what stands behind bytes")
		}
		clear(memory[k].Data)
	}
	clear(memory)
	if !bytes.Equal(b, whole) {
		t.Error("Write keeps what is handed in")
	}
	clear(b[:cap(b)])
	parsed(t, whole, files)
	if again := must(Write(files, 9)); !bytes.Equal(again, whole) {
		t.Error("Write keeps what it answers")
	}
}

// The same of Parse: nor do two lists of one answer share memory.
func TestParseApart(t *testing.T) {
	files := ordinary()
	whole := must(Write(files, 9))
	memory := slices.Concat(whole, some(100, 1))
	kept := slices.Clone(memory)
	got, err := Parse(memory[:len(whole)])
	again, _ := Parse(memory[:len(whole)])
	if err != api.OK || !bytes.Equal(memory, kept) {
		t.Error("Parse changes what is handed in, or what stands behind it")
	}
	clear(memory)
	if !same(got, files) {
		t.Error("Parse keeps what is handed in")
	}
	for k := range got {
		data := got[k].Data
		clear(data[:cap(data)])
		got[k].Data = nil
		if !same(got[k+1:], files[k+1:]) {
			t.Errorf("%s shares its bytes", files[k].Name)
		}
	}
	clear(got[:cap(got)])
	if !same(again, files) {
		t.Error("two answers share memory")
	}
	memory = slices.Concat(whole[:len(whole)-1], []byte{0, 0, 0})
	none(t, "an archive whose last byte stands behind the list", memory[:len(whole)-1])
}

// gave tells what something gives up with.
func gave(do func()) (what any) {
	defer func() { what = recover() }()
	do()
	return nil
}

// A fault is found wherever it is wrapped, and tells what it wraps, and where; what is no fault goes on as a panic.
func TestFault(t *testing.T) {
	f := fault{7, errFormat}
	is(t, "nothing", caught(func() {}), api.OK)
	is(t, "a fault", caught(func() { panic(f) }), api.ErrFormat)
	is(t, "a fault that is wrapped", caught(func() { panic(errors.Join(errors.New("other"), f)) }), api.ErrFormat)
	if s := f.Error(); s != "zip: no archive, read up to 7" {
		t.Errorf("a fault tells %q", s)
	}
	for _, other := range []any{"text", errors.New("no archive"), 15, fault{7, errors.New("no archive")}} {
		if got := gave(func() { caught(func() { panic(other) }) }); got != other {
			t.Errorf("caught of %v gives up with %v", other, got)
		}
	}
}
