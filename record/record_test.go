package record

import (
	"bytes"
	"math"
	"slices"
	"strings"
	"testing"

	"valise/api"
)

// rising tells the next number that follows no simple pattern.
func rising(seed *uint32) int {
	*seed = *seed*1664525 + 1013904223
	return int(*seed >> 8)
}

// some tells n bytes in no simple order, others for each seed.
func some(n int, seed uint32) []byte {
	b := make([]byte, n)
	for k := range b {
		b[k] = byte(rising(&seed) >> 8)
	}
	return b
}

// every is a name of all bytes that there are.
func every() string {
	b := make([]byte, 256)
	for k := range b {
		b[k] = byte(k)
	}
	return string(b)
}

// rights are records that are right: ordinary ones, and each edge.
func rights() []api.Record {
	l := []api.Record{
		{Name: "a"},
		{Name: "a", Method: 8},
		{Name: "d/"},
		{Name: "d/e.txt", Method: 8, Sum: 0xcbf43926, Packed: 0x01020304, Size: 0x05060708, At: 0x090a0b0c},
		{Name: "a b/c", Sum: 1, Packed: 2, Size: 3, At: 4},
		{Name: "a", Method: 8, Sum: api.MaxNum, Packed: api.MaxNum, Size: api.MaxNum, At: api.MaxNum},
	}
	for _, name := range []string{"/", "//", "/d", "d//", "d\\", "d/ ", "d/e", "d/\x00", "\x00", "\x00/", ".", "../..", "é", "\xff", "PK\x03\x04", every(), strings.Repeat("n", 255), strings.Repeat("n", 256), strings.Repeat("n", 257), strings.Repeat("n", 65534), strings.Repeat("n", 65535), strings.Repeat("d", 65534) + "/"} {
		l = append(l, api.Record{Name: name, Method: 8 * (len(name) % 2), Sum: 0xedb88320, Packed: 70000, Size: 300, At: 1 << 20})
	}
	for _, n := range []int{0, 1, 255, 256, 65535, 65536, 1<<31 - 1, 1 << 31, api.MaxNum - 1, api.MaxNum} {
		l = append(l, api.Record{Name: "s", Sum: n}, api.Record{Name: "p", Packed: n}, api.Record{Name: "n", Size: n}, api.Record{Name: "t", At: n})
	}
	return l
}

// wrongs are records that are not right, all but the last two in one thing alone.
func wrongs() []api.Record {
	l := []api.Record{{Name: strings.Repeat("n", 65536)}, {Name: strings.Repeat("n", 65537)}, {Name: strings.Repeat("n", 65536+1000)}, {Name: strings.Repeat("n", 1<<20)}}
	for _, method := range []int{-1, -8, 1, 2, 4, 7, 9, 10, 12, 14, 16, 256, 2048, 65535, 65536, 65536 + 8, 1<<32 + 8, 1 << 32, math.MinInt, math.MaxInt} {
		l = append(l, api.Record{Name: "a", Method: method})
	}
	for _, n := range []int{-1, -65536, -api.MaxNum, math.MinInt, api.MaxNum + 1, api.MaxNum + 2, 1 << 33, math.MaxInt} {
		l = append(l, api.Record{Name: "a", Sum: n}, api.Record{Name: "a", Packed: n}, api.Record{Name: "a", Size: n}, api.Record{Name: "a", At: n})
	}
	return append(l, api.Record{}, api.Record{Method: 3, Sum: -1})
}

// is fails if an error is another one.
func is(t *testing.T, what string, err, want api.Errno) {
	t.Helper()
	if err != want {
		t.Fatalf("%s: error %d, want error %d", what, err, want)
	}
}

// laid fails if a call answered an error, or other bytes.
func laid(t *testing.T, what string, got []byte, err api.Errno, want []byte) {
	t.Helper()
	if err != api.OK || !bytes.Equal(got, want) {
		t.Fatalf("%s: %.100x, error %d, want %.100x", what, got, err, want)
	}
}

// refused fails if a call answered bytes, or another error.
func refused(t *testing.T, what string, got []byte, err, want api.Errno) {
	t.Helper()
	if err != want || got != nil {
		t.Fatalf("%s: %.100x, error %d, want error %d", what, got, err, want)
	}
}

// entry is what a header is read as.
type entry struct {
	record api.Record
	behind int
	err    api.Errno
}

// reading is a call that reads a header.
type reading func(b []byte, at int) (api.Record, int, api.Errno)

// read fails if a header is read as something else.
func read(t *testing.T, do reading, b []byte, at int, want entry) {
	t.Helper()
	record, behind, err := do(b, at)
	if got := (entry{record, behind, err}); got != want {
		t.Fatalf("%.100x at %d: %.300v, want %.300v", b, at, got, want)
	}
}

// unread fails if a header is read, or refused with another error.
func unread(t *testing.T, do reading, b []byte, at int, err api.Errno) {
	t.Helper()
	read(t, do, b, at, entry{err: err})
}

// ended fails if an end is read as something else.
func ended(t *testing.T, b []byte, at int, count, size, where int, want api.Errno) {
	t.Helper()
	gotCount, gotSize, gotWhere, err := ReadEnd(b, at)
	if gotCount != count || gotSize != size || gotWhere != where || err != want {
		t.Fatalf("ReadEnd(%.100x, %d) = %d, %d, %d, error %d, want %d, %d, %d, error %d", b, at, gotCount, gotSize, gotWhere, err, count, size, where, want)
	}
}

// must is an answer of a call that may not fail.
func must(b []byte, err api.Errno) []byte {
	if err != api.OK {
		panic(err)
	}
	return b
}

// The chapter's examples.
func TestExample(t *testing.T) {
	b, err := Local(api.Record{Name: "a"})
	is(t, "Local", err, api.OK)
	if len(b) != 31 || b[30] != 'a' {
		t.Errorf("Local of a: %x", b)
	}
	b, err = End(0, 0, 0)
	laid(t, "End of nothing", b, err, append([]byte{0x50, 0x4b, 5, 6}, make([]byte, 18)...))
	b, err = Central(api.Record{Name: "d/"})
	is(t, "Central", err, api.OK)
	if len(b) != 48 || b[38] != 16 {
		t.Errorf("Central of d/: %x", b)
	}
}

// P14.1: what is right, and what is not.
func TestCheck(t *testing.T) {
	for _, r := range rights() {
		if err := Check(r); err != api.OK {
			t.Errorf("Check(%.200v): error %d", r, err)
		}
	}
	for _, r := range wrongs() {
		if err := Check(r); err != api.ErrArg {
			t.Errorf("Check(%.200v): error %d, want ErrArg", r, err)
		}
	}
	for method := range 70000 {
		want := api.ErrArg
		if method == 0 || method == 8 {
			want = api.OK
		}
		is(t, "Check of a method", Check(api.Record{Name: "a", Method: method}), want)
	}
}

// P14.1: a local header, byte by byte.
func TestLocal(t *testing.T) {
	b, err := Local(api.Record{Name: "d/e", Method: 8, Sum: 0x0a0b0c0d, Packed: 0x10203040, Size: 0xf1f2f3f4, At: 0x55555555})
	laid(t, "Local", b, err, []byte{
		0x50, 0x4b, 3, 4, 20, 0, 0, 0, 8, 0, 0, 0, 33, 0, 0x0d, 0x0c, 0x0b, 0x0a, 0x40, 0x30, 0x20, 0x10, 0xf4, 0xf3, 0xf2, 0xf1, 3, 0, 0, 0, 'd', '/', 'e',
	})
	for _, r := range rights() {
		b, err := Local(r)
		laid(t, "Local", b, err, wordedLocal(r))
	}
}

// P14.1: a central header, byte by byte.
func TestCentral(t *testing.T) {
	b, err := Central(api.Record{Name: "d/", Method: 0, Sum: 0x0a0b0c0d, Packed: 0x10203040, Size: 0xf1f2f3f4, At: 0x51525354})
	laid(t, "Central", b, err, []byte{
		0x50, 0x4b, 1, 2, 20, 0, 20, 0, 0, 0, 0, 0, 0, 0, 33, 0, 0x0d, 0x0c, 0x0b, 0x0a, 0x40, 0x30, 0x20, 0x10, 0xf4, 0xf3, 0xf2, 0xf1, 2, 0,
		0, 0, 0, 0, 0, 0, 0, 0, 16, 0, 0, 0, 0x54, 0x53, 0x52, 0x51, 'd', '/',
	})
	for _, r := range rights() {
		b, err := Central(r)
		laid(t, "Central", b, err, wordedCentral(r))
	}
}

// P14.1: Local and Central refuse what is not right; At, too, where it is not laid down.
func TestHeaderRefused(t *testing.T) {
	for _, r := range wrongs() {
		b, err := Local(r)
		refused(t, "Local", b, err, api.ErrArg)
		b, err = Central(r)
		refused(t, "Central", b, err, api.ErrArg)
	}
}

// P14.1: the end, byte by byte.
func TestEnd(t *testing.T) {
	b, err := End(0x0102, 0x03040506, 0x0708090a)
	laid(t, "End", b, err, []byte{0x50, 0x4b, 5, 6, 0, 0, 0, 0, 2, 1, 2, 1, 6, 5, 4, 3, 10, 9, 8, 7, 0, 0})
	for _, count := range []int{0, 1, 2, 127, 128, 255, 256, 65534, 65535} {
		for _, n := range []int{0, 1, 255, 65535, 65536, 70000, 1 << 31, api.MaxNum - 1, api.MaxNum} {
			b, err := End(count, n, 5)
			laid(t, "End", b, err, wordedEnd(count, n, 5))
			b, err = End(count, 5, n)
			laid(t, "End", b, err, wordedEnd(count, 5, n))
		}
	}
}

// P14.1: what is no small number, or no number.
func TestEndRefused(t *testing.T) {
	for _, count := range []int{-1, -65536, math.MinInt, 65536, 65537, 1 << 20, api.MaxNum, 1 << 32, math.MaxInt} {
		b, err := End(count, 0, 0)
		refused(t, "End", b, err, api.ErrArg)
	}
	for _, n := range []int{-1, -65536, -api.MaxNum, math.MinInt, api.MaxNum + 1, 1 << 40, math.MaxInt} {
		b, err := End(1, n, 0)
		refused(t, "End", b, err, api.ErrArg)
		b, err = End(1, 0, n)
		refused(t, "End", b, err, api.ErrArg)
		b, err = End(-1, n, n)
		refused(t, "End", b, err, api.ErrArg)
	}
}

// places are bytes ahead of what is read, and behind it.
func places() [][2][]byte {
	return [][2][]byte{{nil, nil}, {{0}, nil}, {nil, {'/'}}, {some(29, 1), some(3, 2)}, {some(600, 3), some(70000, 4)}, {[]byte("PK\x03\x04PK\x01\x02PK\x05\x06"), []byte("PK\x05\x06PK\x01\x02PK\x03\x04")}}
}

// P14.2, P14.5: what Local laid down is read, whatever stands ahead and behind, but for At.
func TestReadLocal(t *testing.T) {
	for _, r := range rights() {
		want := r
		want.At = 0
		for _, p := range places() {
			front, head := len(p[0]), must(Local(r))
			read(t, ReadLocal, slices.Concat(p[0], head, p[1]), front, entry{want, front + len(head), api.OK})
		}
	}
}

// P14.3, P14.5: what Central laid down is read, whatever stands ahead and behind.
func TestReadCentral(t *testing.T) {
	for _, r := range rights() {
		for _, p := range places() {
			front, head := len(p[0]), must(Central(r))
			read(t, ReadCentral, slices.Concat(p[0], head, p[1]), front, entry{r, front + len(head), api.OK})
		}
	}
}

// P14.4, P14.5: what End laid down is read, whatever stands ahead and behind.
func TestReadEnd(t *testing.T) {
	for _, count := range []int{0, 1, 128, 255, 256, 65535} {
		for _, n := range []int{0, 1, 70000, 1 << 31, api.MaxNum} {
			for _, p := range places() {
				ended(t, slices.Concat(p[0], must(End(count, n, 7)), p[1]), len(p[0]), count, n, 7, api.OK)
				ended(t, slices.Concat(p[0], must(End(count, 7, n)), p[1]), len(p[0]), count, 7, n, api.OK)
			}
		}
	}
}

// P14.5: headers one behind the other are read one behind the other.
func TestBackRow(t *testing.T) {
	b := some(5, 9)
	for _, r := range rights() {
		b = slices.Concat(b, must(Local(r)), must(Central(r)))
	}
	b = append(b, must(End(3, 4, 5))...)
	at := 5
	for _, r := range rights() {
		want := r
		want.At = 0
		read(t, ReadLocal, b, at, entry{want, at + 30 + len(r.Name), api.OK})
		at += 30 + len(r.Name)
		read(t, ReadCentral, b, at, entry{r, at + 46 + len(r.Name), api.OK})
		at += 46 + len(r.Name)
	}
	ended(t, b, at, 3, 4, 5, api.OK)
	unread(t, ReadLocal, b, at, api.ErrShort)
	unread(t, ReadLocal, b, 6, api.ErrFormat)
	unread(t, ReadCentral, b, 5, api.ErrFormat)
	ended(t, b, 5, 0, 0, 0, api.ErrFormat)
}

// P14.2, P14.3, P14.4: a place that is none, ahead of all else.
func TestReadNowhere(t *testing.T) {
	whole := slices.Concat(must(Local(api.Record{Name: "a"})), must(Central(api.Record{Name: "a"})), must(End(1, 47, 31)))
	for _, b := range [][]byte{nil, {}, {'P'}, some(500, 1), whole, must(End(0, 0, 0))} {
		for _, at := range []int{-1, -2, -22, -30, -46, -len(b) - 1, math.MinInt, math.MinInt + 4, len(b) + 1, len(b) + 2, len(b) + 100, 1 << 32, math.MaxInt - 50, math.MaxInt - 4, math.MaxInt} {
			unread(t, ReadLocal, b, at, api.ErrArg)
			unread(t, ReadCentral, b, at, api.ErrArg)
			ended(t, b, at, 0, 0, 0, api.ErrArg)
		}
	}
}

// P14.2, P14.3, P14.4: too few bytes, whatever they are: those that are no header, too.
func TestReadShort(t *testing.T) {
	local, central := must(Local(api.Record{Name: "abc"})), must(Central(api.Record{Name: "abc"}))
	for _, ahead := range []int{0, 1, 50} {
		for n := range 50 {
			wrong := some(ahead+n, 7)
			if n < 30 {
				unread(t, ReadLocal, wrong, ahead, api.ErrShort)
				unread(t, ReadLocal, append(some(ahead, 1), local[:n]...), ahead, api.ErrShort)
			} else {
				unread(t, ReadLocal, wrong, ahead, api.ErrFormat)
			}
			if n < 46 {
				unread(t, ReadCentral, wrong, ahead, api.ErrShort)
				unread(t, ReadCentral, append(some(ahead, 1), central[:n]...), ahead, api.ErrShort)
			} else {
				unread(t, ReadCentral, wrong, ahead, api.ErrFormat)
			}
			if n < 22 {
				ended(t, wrong, ahead, 0, 0, 0, api.ErrShort)
			} else {
				ended(t, wrong, ahead, 0, 0, 0, api.ErrFormat)
			}
		}
	}
}

// P14.6: without the last one of its bytes, and without more of them, it is ErrShort.
func TestCut(t *testing.T) {
	for _, r := range rights() {
		local, central := must(Local(r)), must(Central(r))
		for _, ahead := range []int{0, 3} {
			for cut := 1; cut <= len(central); cut += 1 + cut/100*(cut/100) {
				unread(t, ReadLocal, append(some(ahead, 1), local[:max(len(local)-cut, 0)]...), ahead, api.ErrShort)
				unread(t, ReadCentral, append(some(ahead, 1), central[:len(central)-cut]...), ahead, api.ErrShort)
			}
		}
	}
	for cut := 1; cut <= 22; cut++ {
		for _, count := range []int{0, 65535} {
			ended(t, must(End(count, api.MaxNum, 0))[:22-cut], 0, 0, 0, 0, api.ErrShort)
			ended(t, append(some(3, 1), must(End(count, 0, 9))[:22-cut]...), 3, 0, 0, 0, api.ErrShort)
		}
	}
}

// changed tells bytes with some of them others.
func changed(b []byte, at int, more ...byte) []byte {
	l := slices.Clone(b)
	copy(l[at:], more)
	return l
}

// P14.2: what a local header may not say, and, where its name is not whole either, ahead of that.
func TestReadLocalFormat(t *testing.T) {
	good := must(Local(api.Record{Name: "abc", Method: 8, Sum: 5, Packed: 6, Size: 7}))
	for _, b := range [][]byte{
		must(Central(api.Record{Name: "abc"})), must(End(0, 0, 0x01010101)), changed(good, 0, 'p'), changed(good, 1, 'k'), changed(good, 2, 1, 2), changed(good, 2, 4, 3), changed(good, 3, 3),
		changed(good, 4, 21), changed(good, 4, 45), changed(good, 4, 255), changed(good, 5, 1), changed(good, 4, 0, 20), changed(good, 4, 255, 255),
		changed(good, 6, 1), changed(good, 6, 8), changed(good, 7, 8), changed(good, 7, 128),
		changed(good, 8, 1), changed(good, 8, 7), changed(good, 8, 9), changed(good, 9, 1), changed(good, 8, 0, 8), changed(good, 8, 0, 1), changed(good, 8, 255, 255),
		changed(good, 26, 0), changed(good, 28, 1), changed(good, 29, 1), changed(good, 28, 255, 255),
	} {
		if len(b) < 30 {
			b = append(b, make([]byte, 30)...)
		}
		unread(t, ReadLocal, b, 0, api.ErrFormat)
		unread(t, ReadLocal, b[:30], 0, api.ErrFormat)
		if b[26] != 0 {
			unread(t, ReadLocal, changed(b, 26, 255, 255), 0, api.ErrFormat)
		}
	}
	unread(t, ReadLocal, good[:30], 0, api.ErrShort)
	unread(t, ReadLocal, changed(good, 26, 4), 0, api.ErrShort)
	unread(t, ReadLocal, changed(good, 26, 0, 1), 0, api.ErrShort)
	unread(t, ReadLocal, changed(good, 26, 255, 255), 0, api.ErrShort)
}

// P14.2: what a local header may say otherwise than Local lays it down.
func TestReadLocalAny(t *testing.T) {
	good := must(Local(api.Record{Name: "abc", Method: 8, Sum: 5, Packed: 6, Size: 7}))
	want := entry{api.Record{Name: "abc", Method: 8, Sum: 5, Packed: 6, Size: 7}, 33, api.OK}
	for _, b := range [][]byte{changed(good, 4, 0), changed(good, 4, 10), changed(good, 4, 19), changed(good, 10, 255, 255), changed(good, 12, 0, 0), changed(good, 12, 255, 255), changed(good, 10, some(4, 1)...)} {
		read(t, ReadLocal, b, 0, want)
	}
	want.record.Name, want.behind = "ab", 32
	read(t, ReadLocal, changed(good, 26, 2), 0, want)
}

// P14.3: what a central header may not say, and, where its name is not whole either, ahead of that.
func TestReadCentralFormat(t *testing.T) {
	good := must(Central(api.Record{Name: "abc", Method: 8, Sum: 5, Packed: 6, Size: 7, At: 8}))
	for _, b := range [][]byte{
		append(must(Local(api.Record{Name: "abc"})), some(30, 1)...), append(must(End(0, 0, 0)), make([]byte, 30)...), changed(good, 0, 'p'), changed(good, 1, 'k'), changed(good, 2, 3, 4), changed(good, 2, 2, 1), changed(good, 3, 1),
		changed(good, 6, 21), changed(good, 6, 45), changed(good, 6, 255), changed(good, 7, 1), changed(good, 6, 0, 20), changed(good, 6, 255, 255),
		changed(good, 8, 1), changed(good, 8, 8), changed(good, 9, 8), changed(good, 9, 128),
		changed(good, 10, 1), changed(good, 10, 7), changed(good, 10, 9), changed(good, 11, 1), changed(good, 10, 0, 8), changed(good, 10, 255, 255),
		changed(good, 28, 0), changed(good, 30, 1), changed(good, 31, 1), changed(good, 32, 1), changed(good, 33, 1), changed(good, 34, 1), changed(good, 35, 1), changed(good, 30, 255, 255, 255, 255, 255, 255),
	} {
		unread(t, ReadCentral, b, 0, api.ErrFormat)
		unread(t, ReadCentral, b[:46], 0, api.ErrFormat)
		if b[28] != 0 {
			unread(t, ReadCentral, changed(b, 28, 255, 255), 0, api.ErrFormat)
		}
	}
	unread(t, ReadCentral, good[:46], 0, api.ErrShort)
	unread(t, ReadCentral, changed(good, 28, 4), 0, api.ErrShort)
	unread(t, ReadCentral, changed(good, 28, 0, 1), 0, api.ErrShort)
	unread(t, ReadCentral, changed(good, 28, 255, 255), 0, api.ErrShort)
}

// P14.3: what a central header may say otherwise than Central lays it down; a name tells nothing of what stands at 38.
func TestReadCentralAny(t *testing.T) {
	good := must(Central(api.Record{Name: "ab/", Method: 8, Sum: 5, Packed: 6, Size: 7, At: 8}))
	want := entry{api.Record{Name: "ab/", Method: 8, Sum: 5, Packed: 6, Size: 7, At: 8}, 49, api.OK}
	for _, b := range [][]byte{
		changed(good, 4, 0, 0), changed(good, 4, 63, 3), changed(good, 4, 255, 255), changed(good, 6, 0), changed(good, 6, 10), changed(good, 6, 19),
		changed(good, 12, 255, 255), changed(good, 14, 0, 0), changed(good, 14, 255, 255), changed(good, 36, 1), changed(good, 36, 255, 255),
		changed(good, 38, 0), changed(good, 38, 255, 255, 255, 255), changed(good, 36, some(6, 1)...),
	} {
		read(t, ReadCentral, b, 0, want)
	}
	want.record.Name, want.behind = "ab", 48
	read(t, ReadCentral, changed(good, 28, 2), 0, want)
}

// P14.4: what an end may not say.
func TestReadEndFormat(t *testing.T) {
	good := must(End(0x0101, 5, 6))
	for _, b := range [][]byte{
		must(Local(api.Record{Name: "abc"})), must(Central(api.Record{Name: "abc"})), changed(good, 0, 'p'), changed(good, 1, 'k'), changed(good, 2, 3, 4), changed(good, 2, 6, 5), changed(good, 3, 5),
		changed(good, 4, 1), changed(good, 5, 1), changed(good, 6, 1), changed(good, 7, 1), changed(good, 4, 255, 255), changed(good, 6, 255, 255),
		changed(good, 8, 0), changed(good, 9, 0), changed(good, 10, 2), changed(good, 11, 2), changed(good, 8, 0, 0), changed(good, 10, 0, 0), changed(good, 8, 1, 2, 2, 1),
		changed(good, 20, 1), changed(good, 21, 1), changed(good, 20, 255, 255),
	} {
		ended(t, b, 0, 0, 0, 0, api.ErrFormat)
		ended(t, b[:22], 0, 0, 0, 0, api.ErrFormat)
		ended(t, append(b[:22:22], 0), 0, 0, 0, 0, api.ErrFormat)
	}
	ended(t, good, 0, 0x0101, 5, 6, api.OK)
	ended(t, changed(good, 8, 3, 4, 3, 4), 0, 0x0403, 5, 6, api.OK)
}

// Bytes behind a list's end are not there.
func TestReadBehind(t *testing.T) {
	local, central, last := must(Local(api.Record{Name: "abc"})), must(Central(api.Record{Name: "abc"})), must(End(1, 2, 3))
	for n := range local {
		unread(t, ReadLocal, local[:n], 0, api.ErrShort)
	}
	for n := range central {
		unread(t, ReadCentral, central[:n], 0, api.ErrShort)
	}
	for n := range last {
		ended(t, last[:n], 0, 0, 0, 0, api.ErrShort)
	}
	unread(t, ReadLocal, local[:4], 5, api.ErrArg)
}

// What is handed in is neither changed nor kept, and an answer is new memory.
func TestApart(t *testing.T) {
	r := api.Record{Name: "abc/", Method: 8, Sum: 5, Packed: 6, Size: 7}
	for _, c := range []struct {
		lay func(r api.Record) ([]byte, api.Errno)
		do  reading
	}{{Local, ReadLocal}, {Central, ReadCentral}} {
		first, second := must(c.lay(r)), must(c.lay(r))
		memory := append(slices.Clone(first), some(20, 1)...)
		whole := slices.Clone(memory)
		got, behind, err := c.do(memory[:len(first)], 0)
		is(t, "reading", err, api.OK)
		if !bytes.Equal(memory, whole) {
			t.Error("what was handed in is changed")
		}
		clear(memory)
		if got != r || behind != len(first) {
			t.Error("what was handed in is kept")
		}
		clear(first[:cap(first)])
		read(t, c.do, second, 0, entry{r, len(second), api.OK})
		read(t, c.do, must(c.lay(r)), 0, entry{r, len(second), api.OK})
	}
	first := must(End(1, 2, 3))
	clear(first[:cap(first)])
	ended(t, must(End(1, 2, 3)), 0, 1, 2, 3, api.OK)
}
