package overlay

import (
	"bytes"
	"math"
	"slices"
	"strconv"
	"strings"
	"testing"
	"unsafe"

	"valise/api"
)

// based is a base of these files. It fails where it is asked for what it has not.
type based struct {
	t     *testing.T
	files map[string][]byte
	asked []api.Key
}

// Block tells a block as it stands in the base, with more behind it, if there is more.
func (b *based) Block(k api.Key) []byte {
	b.t.Helper()
	b.asked = append(b.asked, k)
	data, ok := b.files[k.File]
	if !ok || k.I < 0 || k.I > 16 || k.I*4096 >= len(data) {
		b.t.Errorf("the base is asked for the block %d of %q", k.I, k.File)
		return nil
	}
	return data[k.I*4096 : min(k.I*4096+4096, len(data))]
}

// pattern tells n bytes, none of them 0, which hang on a name; those of two blocks are not alike.
func pattern(name string, n int) []byte {
	seed := uint32(len(name))
	for _, c := range []byte(name) {
		seed = seed*31 + uint32(c)
	}
	b := make([]byte, n)
	for k := range b {
		b[k] = byte(1 + next(&seed, 255))
	}
	return b
}

// next tells a number below n that hangs on the ones told ahead.
func next(seed *uint32, n int) int {
	*seed = *seed*1664525 + 1013904223
	return int(*seed>>8) % n
}

// parsed tells a file by a short text: d/ is a directory, a an empty file, a=x a file with the byte x, a*9 one of 9 bytes of its name's pattern.
func parsed(text string) api.File {
	name, data, _ := strings.Cut(text, "=")
	name, number, long := strings.Cut(name, "*")
	name, dir := strings.CutSuffix(name, "/")
	f := api.File{Name: name, Dir: dir, Data: []byte(data)}
	if long {
		n, err := strconv.Atoi(number)
		if err != nil {
			panic(text)
		}
		f.Data = pattern(name, n)
	}
	return f
}

// listed tells what is known of such files, and their base.
func listed(t *testing.T, texts ...string) ([]api.Meta, *based) {
	base := &based{t: t, files: map[string][]byte{}}
	var l []api.Meta
	for _, text := range texts {
		f := parsed(text)
		l = append(l, api.Meta{Name: f.Name, Dir: f.Dir, Size: len(f.Data)})
		if !f.Dir {
			base.files[f.Name] = f.Data
		}
	}
	return l, base
}

// made is New of what may be.
func made(t *testing.T, texts ...string) (*FS, *based) {
	t.Helper()
	l, base := listed(t, texts...)
	f, err := New(l, base)
	if err != api.OK || f == nil {
		t.Fatalf("New(%.200q) = %v, error %d", texts, f, err)
	}
	return f, base
}

// told tells files as short texts, with their bytes.
func told(l []api.File) []string {
	var texts []string
	for _, f := range l {
		s := f.Name
		if f.Dir {
			s += "/"
		}
		if len(f.Data) > 0 {
			s += "=" + string(f.Data)
		}
		texts = append(texts, s)
	}
	return texts
}

// has fails unless just these files are there, in this order, and as many bytes are used.
func has(t *testing.T, f *FS, texts ...string) {
	t.Helper()
	var want []api.File
	used := 0
	for _, text := range texts {
		want = append(want, parsed(text))
		used += len(want[len(want)-1].Data)
	}
	if got := told(f.Files()); !slices.Equal(got, told(want)) {
		t.Fatalf("Files: %.300q, want %.300q", got, told(want))
	}
	if f.Used() != used {
		t.Fatalf("Used() = %d, want %d", f.Used(), used)
	}
}

// The things that are asked for. How is w (Write), c (Create), both or none.
func opOpen(p, how string) api.Op {
	return api.Op{Kind: api.OpOpen, Path: p, Write: strings.Contains(how, "w"), Create: strings.Contains(how, "c")}
}

func opRead(handle, at, n int) api.Op {
	return api.Op{Kind: api.OpRead, Handle: handle, At: at, N: n}
}

func opWrite(handle, at int, data string) api.Op {
	return api.Op{Kind: api.OpWrite, Handle: handle, At: at, Data: []byte(data)}
}

func opTruncate(handle, n int) api.Op {
	return api.Op{Kind: api.OpTruncate, Handle: handle, N: n}
}

func opClose(handle int) api.Op { return api.Op{Kind: api.OpClose, Handle: handle} }

func opMkdir(p string) api.Op { return api.Op{Kind: api.OpMkdir, Path: p} }

func opRemove(p string) api.Op { return api.Op{Kind: api.OpRemove, Path: p} }

func opRename(from, to string) api.Op { return api.Op{Kind: api.OpRename, Path: from, To: to} }

func opList(p string) api.Op { return api.Op{Kind: api.OpList, Path: p} }

// alike tells whether two answers are one.
func alike(a, b api.Result) bool {
	return a.Errno == b.Errno && a.Handle == b.Handle && a.N == b.N && bytes.Equal(a.Data, b.Data) && slices.Equal(a.Names, b.Names)
}

// shown tells an answer as a text.
func shown(r api.Result) string {
	return "error " + strconv.Itoa(int(r.Errno)) + ", Handle " + strconv.Itoa(r.Handle) + ", N " + strconv.Itoa(r.N) + ", Data " + strconv.Quote(string(r.Data[:min(len(r.Data), 100)])) + " (" + strconv.Itoa(len(r.Data)) + "), Names " + strings.Join(r.Names, ", ")
}

// named tells what is asked for as a text.
func named(op api.Op) string {
	numbers := []string{strconv.Itoa(op.Kind), strconv.Itoa(op.Handle), strconv.Itoa(op.At), strconv.Itoa(op.N), strconv.FormatBool(op.Write), strconv.FormatBool(op.Create), strconv.Itoa(len(op.Data))}
	return "Kind, Handle, At, N, Write, Create, bytes of Data: " + strings.Join(numbers, ", ") + ", Path " + strconv.Quote(op.Path[:min(len(op.Path), 150)]) + ", To " + strconv.Quote(op.To[:min(len(op.To), 150)])
}

// answers fails unless what a client asks for is answered so.
func answers(t *testing.T, f *FS, who int, op api.Op, want api.Result) {
	t.Helper()
	if got := f.Do(who, op); !alike(got, want) {
		t.Fatalf("Do(%d, %s): %s, want %s", who, named(op), shown(got), shown(want))
	}
}

// does fails unless all that a client asks for is done, and answered with nothing else than OK, or refused with this error.
func does(t *testing.T, f *FS, who int, op api.Op, want api.Errno) {
	t.Helper()
	answers(t, f, who, op, api.Result{Errno: want})
}

// opens fails unless a path is opened as this handle.
func opens(t *testing.T, f *FS, who int, p, how string, want int) {
	t.Helper()
	answers(t, f, who, opOpen(p, how), api.Result{Handle: want})
}

// reads fails unless this is read.
func reads(t *testing.T, f *FS, who int, op api.Op, want string) {
	t.Helper()
	answers(t, f, who, op, api.Result{Data: []byte(want)})
}

// writes fails unless all of it is written.
func writes(t *testing.T, f *FS, who int, op api.Op) {
	t.Helper()
	answers(t, f, who, op, api.Result{N: len(op.Data)})
}

// holds fails unless a client has just these handles open.
func holds(t *testing.T, f *FS, who int, want ...int) {
	t.Helper()
	if got := f.Handles(who); !slices.Equal(got, want) {
		t.Fatalf("Handles(%d) = %v, want %v", who, got, want)
	}
}

// stands fails unless the file of a handle has this path.
func stands(t *testing.T, f *FS, who, handle int, want string) {
	t.Helper()
	if got := f.File(who, handle); got != want {
		t.Fatalf("File(%d, %d) = %q, want %q", who, handle, got, want)
	}
}

// many tells n names of empty files, rising.
func many(n int) []string {
	var l []string
	for k := range n {
		l = append(l, strconv.Itoa(1000+k))
	}
	return l
}

// notHandles are numbers that are no handles at all.
func notHandles() []int {
	return []int{0, -1, -16, 17, 18, 255, 256, 257, 1 << 32, 1<<32 + 1, math.MinInt, math.MaxInt}
}

// nobody are numbers that are no clients.
func nobody() []int {
	return []int{-1, -8, 8, 9, 256, 1 << 32, math.MinInt, math.MaxInt}
}

// wrongTexts are texts of which path.Clean makes no path, and its errors.
func wrongTexts() map[string]api.Errno {
	return map[string]api.Errno{
		"\\": api.ErrName, "a\\b": api.ErrName, "a/\x00": api.ErrName, "\xff": api.ErrName, strings.Repeat("n", 33): api.ErrName, "a/b/c/d/e/f/g/h/i": api.ErrName,
		strings.Repeat("n", 1024): api.ErrName, strings.Repeat("/", 1025): api.ErrTooLarge, strings.Repeat("a/", 512) + "b": api.ErrTooLarge, strings.Repeat("x", 1<<16): api.ErrTooLarge,
	}
}

// The chapter's example.
func TestExample(t *testing.T) {
	f, _ := made(t)
	opens(t, f, 0, "a", "wc", 1)
	writes(t, f, 0, opWrite(1, 2, "xy"))
	reads(t, f, 0, opRead(1, 0, 9), "\x00\x00xy")
	does(t, f, 0, opRename("a", "b"), api.OK)
	reads(t, f, 0, opRead(1, 0, 9), "\x00\x00xy")
	does(t, f, 0, opRemove("b"), api.ErrBusy)
	does(t, f, 0, opClose(1), api.OK)
	does(t, f, 0, opRemove("b"), api.OK)
	has(t, f)
}

// P19.1: the files of a base, in path's order, with the directories that they stand in.
func TestNew(t *testing.T) {
	f, _ := made(t)
	has(t, f)
	f, _ = made(t, "b*5", "a=xyz", "d/", "e/f/g*5000", "c", "a b*4096")
	has(t, f, "a=xyz", "a b*4096", "b*5", "c", "d/", "e/", "e/f/", "e/f/g*5000")
	for who := range 8 {
		holds(t, f, who)
		stands(t, f, who, 1, "")
	}
	f, _ = made(t, "a*65536", "b*1", "c*65535")
	has(t, f, "a*65536", "b*1", "c*65535")
	f, _ = made(t, many(128)...)
	has(t, f, many(128)...)
}

// refusedNew fails unless New refuses just so.
func refusedNew(t *testing.T, l []api.Meta, base api.Base, want api.Errno) {
	t.Helper()
	if f, err := New(l, base); f != nil || err != want {
		t.Fatalf("New(%.300v) = %v, error %d, want error %d", l, f, err, want)
	}
}

// P19.1: there is no base; this ahead of all else.
func TestNewNil(t *testing.T) {
	for _, l := range [][]api.Meta{nil, {}, {{Name: "a"}}, {{Name: "/", Size: -1}}, {{Name: "a", Size: 65537}}, {{Name: "a"}, {Name: "a"}}} {
		refusedNew(t, l, nil, api.ErrNil)
	}
}

// P19.1: each error, and which one comes first, wherever in the list they stand.
func TestNewRefused(t *testing.T) {
	size, dir, large := api.Meta{Name: "s", Size: -1}, api.Meta{Name: "e", Dir: true, Size: 1}, api.Meta{Name: "l", Size: 65537}
	name, twice, under := api.Meta{Name: "x/"}, api.Meta{Name: "a"}, api.Meta{Name: "a/b"}
	full := func(n int) []api.Meta {
		var l []api.Meta
		for k := range n {
			l = append(l, api.Meta{Name: "f" + strconv.Itoa(k), Size: 65536})
		}
		return l
	}
	for _, c := range []struct {
		l    []api.Meta
		want api.Errno
	}{
		{[]api.Meta{size}, api.ErrArg}, {[]api.Meta{dir}, api.ErrArg}, {[]api.Meta{{Name: "d", Dir: true, Size: -1}}, api.ErrArg}, {[]api.Meta{{Name: "d", Dir: true, Size: 65537}}, api.ErrArg},
		{[]api.Meta{{Name: "a", Size: math.MinInt}}, api.ErrArg}, {[]api.Meta{{Name: "", Size: -1}}, api.ErrArg},
		{[]api.Meta{large}, api.ErrTooLarge}, {[]api.Meta{{Name: "a", Size: math.MaxInt}}, api.ErrTooLarge}, {[]api.Meta{{Name: "a", Size: math.MaxInt}, {Name: "b", Size: math.MaxInt}}, api.ErrTooLarge}, {[]api.Meta{{Name: "", Size: 1 << 32}}, api.ErrTooLarge},
		{[]api.Meta{name}, api.ErrName}, {[]api.Meta{{Name: ""}}, api.ErrName}, {[]api.Meta{{Name: "", Dir: true}}, api.ErrName}, {[]api.Meta{{Name: "a/../b"}}, api.ErrName},
		{[]api.Meta{twice, twice}, api.ErrExists}, {[]api.Meta{twice, {Name: "a", Dir: true}}, api.ErrExists}, {[]api.Meta{twice, under}, api.ErrFile}, {[]api.Meta{under, twice}, api.ErrFile},
		{append(full(4), api.Meta{Name: "g", Size: 1}), api.ErrNoSpace}, {append([]api.Meta{{Name: "g", Size: 1}}, full(4)...), api.ErrNoSpace}, {full(5), api.ErrNoSpace}, {full(128), api.ErrNoSpace},
		// Which one comes first.
		{[]api.Meta{large, name, dir}, api.ErrArg}, {[]api.Meta{large, name, size}, api.ErrArg}, {[]api.Meta{size, large, name}, api.ErrArg}, {append(full(5), large, name, twice, twice, size), api.ErrArg},
		{[]api.Meta{name, large}, api.ErrTooLarge}, {append(full(5), twice, twice, large), api.ErrTooLarge}, {append(full(130), large), api.ErrTooLarge},
		{append(full(5), name), api.ErrName}, {append(full(5), twice, under), api.ErrFile}, {append(full(5), twice, twice), api.ErrExists}, {append(full(5), under, under, twice), api.ErrExists},
	} {
		refusedNew(t, c.l, &based{t: t}, c.want)
	}
}

// P19.1: room for 128 files and directories, and for 2^18 bytes.
func TestNewRoom(t *testing.T) {
	f, _ := made(t, "a*65536", "b*65536", "c*65536", "d*65535", "e*1", "f", "g/")
	has(t, f, "a*65536", "b*65536", "c*65536", "d*65535", "e*1", "f", "g/")
	f, _ = made(t, append(many(127), "d/")...)
	has(t, f, append(many(127), "d/")...)
	for _, texts := range [][]string{many(129), append(many(127), "d/a"), append(many(128), "d/"), many(256), many(257), many(1000), append(many(128), "a*65536", "b*65536", "c*65536", "d*65536", "e*65536")} {
		l, base := listed(t, texts...)
		refusedNew(t, l, base, api.ErrNoSpace)
	}
	l, base := listed(t, append(many(300), "1000")...)
	refusedNew(t, l, base, api.ErrExists)
}

// P19.2: who is no client, or what is none of the nine.
func TestDoArg(t *testing.T) {
	f, _ := made(t, "a=x")
	opens(t, f, 0, "a", "w", 1)
	for _, who := range nobody() {
		for _, op := range []api.Op{{}, {Kind: api.OpFlush}, opOpen("a", ""), opOpen("\\", ""), opRead(1, 0, 1), opWrite(1, 0, "y"), opTruncate(1, 0), opClose(1), opMkdir("d"), opRemove("a"), opRename("a", "b"), opList("")} {
			does(t, f, who, op, api.ErrArg)
		}
		holds(t, f, who)
		stands(t, f, who, 1, "")
	}
	for _, kind := range []int{0, -1, 10, 11, 256 + 1, 1<<32 + 1, math.MinInt, math.MaxInt} {
		for who := range 8 {
			does(t, f, who, api.Op{Kind: kind, Path: "d", To: "e", Handle: 1, N: 1, Data: []byte("y"), Write: true, Create: true}, api.ErrArg)
		}
	}
	has(t, f, "a=x")
	holds(t, f, 0, 1)
	for who := range 8 {
		answers(t, f, who, opList(""), api.Result{Names: []string{"a"}})
	}
}

// P19.2: OpOpen tells the lowest number that is not open, of 16.
func TestOpen(t *testing.T) {
	f, _ := made(t, "a=x", "d/b=y", "d/c")
	for k := range 16 {
		opens(t, f, 3, []string{"a", "d/b", "d/c"}[k%3], "", k+1)
	}
	for k := range 16 {
		stands(t, f, 3, k+1, []string{"a", "d/b", "d/c"}[k%3])
	}
	for _, handle := range []int{9, 2, 16, 1} {
		does(t, f, 3, opClose(handle), api.OK)
	}
	holds(t, f, 3, 3, 4, 5, 6, 7, 8, 10, 11, 12, 13, 14, 15)
	for _, handle := range []int{1, 2, 9, 16} {
		opens(t, f, 3, "d/c", "w", handle)
		stands(t, f, 3, handle, "d/c")
	}
	does(t, f, 3, opOpen("a", ""), api.ErrNoSpace)
	opens(t, f, 4, "a", "", 1)
	has(t, f, "a=x", "d/", "d/b=y", "d/c")
}

// P19.2: with 16 handles open there is no room, whatever is to be opened; nothing is made.
func TestOpenNoSpace(t *testing.T) {
	f, _ := made(t, "a=x", "d/")
	for k := range 16 {
		opens(t, f, 7, "a", "", k+1)
	}
	for _, p := range []string{"a", "b", "d", "", "\\", "b/c", "a/b", strings.Repeat("x", 1025)} {
		for _, how := range []string{"", "w", "c", "wc"} {
			does(t, f, 7, opOpen(p, how), api.ErrNoSpace)
		}
	}
	has(t, f, "a=x", "d/")
	does(t, f, 7, opClose(5), api.OK)
	opens(t, f, 7, "b", "c", 5)
}

// P19.2: what may not be opened.
func TestOpenRefused(t *testing.T) {
	f, _ := made(t, "a=x", "d/b=y")
	for _, how := range []string{"", "w", "c", "wc"} {
		for text, want := range wrongTexts() {
			does(t, f, 0, opOpen(text, how), want)
		}
		for p, want := range map[string]api.Errno{"": api.ErrDir, "/": api.ErrDir, "d": api.ErrDir, "d/.": api.ErrDir, "a/..": api.ErrDir, "a/b": api.ErrFile, "d/b/c/d": api.ErrFile, "c/d": api.ErrNone, "d/c/d": api.ErrNone} {
			does(t, f, 0, opOpen(p, how), want)
		}
	}
	for _, p := range []string{"c", "d/c", "A", "d/a"} {
		does(t, f, 0, opOpen(p, ""), api.ErrNone)
		does(t, f, 0, opOpen(p, "w"), api.ErrNone)
	}
	has(t, f, "a=x", "d/", "d/b=y")
	holds(t, f, 0)
}

// P19.2: Create makes what is not there, and leaves what is.
func TestOpenCreate(t *testing.T) {
	f, _ := made(t, "a=x", "d/b=y")
	opens(t, f, 0, "a", "c", 1)
	opens(t, f, 0, "a", "wc", 2)
	opens(t, f, 0, "c", "c", 3)
	opens(t, f, 0, "//d//./../d/c", "wc", 4)
	stands(t, f, 0, 4, "d/c")
	has(t, f, "a=x", "c", "d/", "d/b=y", "d/c")
	reads(t, f, 0, opRead(1, 0, 9), "x")
	reads(t, f, 0, opRead(3, 0, 9), "")
	does(t, f, 0, opWrite(3, 0, "z"), api.ErrArg)
	writes(t, f, 0, opWrite(4, 0, "z"))
	opens(t, f, 1, "c", "w", 1)
	writes(t, f, 1, opWrite(1, 0, "uv"))
	reads(t, f, 0, opRead(3, 0, 9), "uv")
	has(t, f, "a=x", "c=uv", "d/", "d/b=y", "d/c=z")
}

// P19.2: a file more than there is room for is not made; one that is there is opened all the same.
func TestOpenCreateRoom(t *testing.T) {
	f, _ := made(t, append(many(127), "d/")...)
	for range 3 {
		does(t, f, 0, opOpen("e", "c"), api.ErrNoSpace)
		does(t, f, 0, opOpen("d/e", "wc"), api.ErrNoSpace)
		does(t, f, 0, opOpen("x/e", "wc"), api.ErrNone)
		does(t, f, 0, opOpen("1000/e", "wc"), api.ErrFile)
	}
	has(t, f, append(many(127), "d/")...)
	opens(t, f, 0, "1126", "wc", 1)
	f, _ = made(t, many(128)...)
	does(t, f, 0, opOpen("e", "c"), api.ErrNoSpace)
	does(t, f, 0, opOpen("x/e", "c"), api.ErrNone)
	holds(t, f, 0)
	has(t, f, many(128)...)
	does(t, f, 0, opRemove("1007"), api.OK)
	opens(t, f, 0, "e", "c", 1)
	does(t, f, 0, opOpen("g", "c"), api.ErrNoSpace)
	has(t, f, append(slices.DeleteFunc(many(128), func(s string) bool { return s == "1007" }), "e")...)
}

// P19.2: files that come and go, more of them than there may be at one time, are never taken for each other.
func TestManyFiles(t *testing.T) {
	f, _ := made(t, "a=x", "b=y")
	opens(t, f, 1, "a", "w", 1)
	var there []string
	for k := range 600 {
		p := strconv.Itoa(1000 + k)
		opens(t, f, 0, p, "wc", 1)
		reads(t, f, 0, opRead(1, 0, 9), "")
		writes(t, f, 0, opWrite(1, 0, p))
		does(t, f, 0, opClose(1), api.OK)
		there = append(there, p+"="+p)
		if len(there) == 126 {
			does(t, f, 0, opOpen("c", "wc"), api.ErrNoSpace)
			has(t, f, append(slices.Clone(there), "a=x", "b=y")...)
			for range 1 + k%7 {
				at := k * 31 % len(there)
				does(t, f, 0, opRemove(there[at][:4]), api.OK)
				there = slices.Delete(there, at, at+1)
			}
		}
	}
	stands(t, f, 1, 1, "a")
	has(t, f, append(there, "a=x", "b=y")...)
}

// P19.2: what a directory leaves has room for a file, be the directory the base's or not.
func TestFilesForDirs(t *testing.T) {
	l := many(128)
	for k := range l {
		l[k] += "/"
	}
	f, _ := made(t, l...)
	for round := range 3 {
		for _, p := range many(128) {
			does(t, f, 0, opOpen("e", "c"), api.ErrNoSpace)
			does(t, f, 0, opRemove(p), api.OK)
			if round == 1 {
				does(t, f, 0, opMkdir(p), api.OK)
				continue
			}
			opens(t, f, 0, p, "wc", 1)
			writes(t, f, 0, opWrite(1, 0, p))
			does(t, f, 0, opClose(1), api.OK)
			reads(t, f, 0, opRead(f.Do(0, opOpen(p, "")).Handle, 0, 9), p)
			does(t, f, 0, opClose(1), api.OK)
		}
	}
	for k, p := range many(128) {
		l[k] = p + "=" + p
	}
	has(t, f, l...)
}

// P19.2: OpRead tells as many bytes as there are.
func TestRead(t *testing.T) {
	f, _ := made(t, "a=abcdefg", "e")
	opens(t, f, 0, "a", "", 1)
	opens(t, f, 0, "e", "w", 2)
	for at := range 10 {
		for n := range 10 {
			from := min(at, 7)
			reads(t, f, 0, opRead(1, at, n), "abcdefg"[from:min(from+n, 7)])
			reads(t, f, 0, opRead(2, at, n), "")
		}
	}
	for _, n := range []int{7, 8, 65536, 65537, 1 << 32, math.MaxInt} {
		reads(t, f, 0, opRead(1, 0, n), "abcdefg")
		reads(t, f, 0, opRead(1, 3, n), "defg")
		reads(t, f, 0, opRead(1, n, n), "")
		reads(t, f, 0, opRead(1, n, 1), "")
		reads(t, f, 0, opRead(1, n, 0), "")
	}
	for _, wrong := range []int{-1, -2, -4096, math.MinInt} {
		does(t, f, 0, opRead(1, wrong, 1), api.ErrArg)
		does(t, f, 0, opRead(1, 0, wrong), api.ErrArg)
		does(t, f, 0, opRead(1, wrong, wrong), api.ErrArg)
		does(t, f, 0, opRead(1, math.MaxInt, wrong), api.ErrArg)
		does(t, f, 0, opRead(3, wrong, wrong), api.ErrHandle)
	}
}

// P19.2: OpWrite: bytes stand from a place on, with bytes 0 ahead of them where there was nothing.
func TestWrite(t *testing.T) {
	f, _ := made(t, "a=abcdefg", "e")
	opens(t, f, 0, "a", "w", 1)
	opens(t, f, 0, "e", "w", 2)
	for _, step := range []struct {
		at         int
		data, want string
	}{{0, "A", "Abcdefg"}, {6, "G", "AbcdefG"}, {2, "CDE", "AbCDEfG"}, {7, "h", "AbCDEfGh"}, {6, "ghi", "AbCDEfghi"}, {11, "k", "AbCDEfghi\x00\x00k"}, {0, "zyxwvutsrqponm", "zyxwvutsrqponm"}, {1, "\x00", "z\x00xwvutsrqponm"}} {
		writes(t, f, 0, opWrite(1, step.at, step.data))
		reads(t, f, 0, opRead(1, 0, 100), step.want)
		has(t, f, "a="+step.want, "e")
	}
	writes(t, f, 0, opWrite(2, 3, "x"))
	has(t, f, "a=z\x00xwvutsrqponm", "e=\x00\x00\x00x")
}

// P19.2: no Data is written, and nothing is longer for it, whatever the place; a handle that may not write is told so first.
func TestWriteNothing(t *testing.T) {
	f, _ := made(t, "a=abc", "b*65536", "c*65536", "d*65536", "e*65533")
	opens(t, f, 0, "a", "w", 1)
	opens(t, f, 0, "a", "", 2)
	for _, at := range []int{0, 1, 3, 4, 100, 65536, 65537, 1 << 32, math.MaxInt} {
		writes(t, f, 0, opWrite(1, at, ""))
		does(t, f, 0, api.Op{Kind: api.OpWrite, Handle: 1, At: at, Data: []byte{}}, api.OK)
		does(t, f, 0, opWrite(2, at, ""), api.ErrArg)
		does(t, f, 0, opWrite(3, at, ""), api.ErrHandle)
	}
	for _, at := range []int{-1, math.MinInt} {
		does(t, f, 0, opWrite(1, at, ""), api.ErrArg)
	}
	has(t, f, "a=abc", "b*65536", "c*65536", "d*65536", "e*65533")
}

// P19.2: what may not be written, and which error comes first.
func TestWriteRefused(t *testing.T) {
	f, _ := made(t, "a=abc", "b*65536", "c*65536", "d*65536", "e*65530")
	opens(t, f, 0, "a", "w", 1)
	opens(t, f, 0, "a", "", 2)
	for _, c := range []struct {
		handle, at, n int
		want          api.Errno
	}{
		{1, -1, 1, api.ErrArg}, {1, math.MinInt, 1, api.ErrArg}, {1, -1, 65537, api.ErrArg}, {2, 0, 1, api.ErrArg}, {2, 65536, 1, api.ErrArg}, {2, -1, 1, api.ErrArg}, {2, 0, 65536, api.ErrArg}, {3, -1, 1, api.ErrHandle}, {3, 65536, 1, api.ErrHandle},
		{1, 65536, 1, api.ErrTooLarge}, {1, 65535, 2, api.ErrTooLarge}, {1, 0, 65537, api.ErrTooLarge}, {1, 1, 65536, api.ErrTooLarge}, {1, 0, 1 << 20, api.ErrTooLarge}, {1, math.MaxInt, 1, api.ErrTooLarge}, {1, math.MaxInt, 65536, api.ErrTooLarge}, {1, math.MaxInt - 1, 1, api.ErrTooLarge}, {1, 1 << 32, 5, api.ErrTooLarge},
		{1, 0, 7, api.ErrNoSpace}, {1, 6, 1, api.ErrNoSpace}, {1, 5, 2, api.ErrNoSpace}, {1, 65535, 1, api.ErrNoSpace}, {1, 0, 65536, api.ErrNoSpace},
	} {
		does(t, f, 0, opWrite(c.handle, c.at, strings.Repeat("x", c.n)), c.want)
	}
	has(t, f, "a=abc", "b*65536", "c*65536", "d*65536", "e*65530")
	writes(t, f, 0, opWrite(1, 5, "f"))
	has(t, f, "a=abc\x00\x00f", "b*65536", "c*65536", "d*65536", "e*65530")
}

// P19.2: OpTruncate leaves the first bytes, and bytes 0 behind them.
func TestTruncate(t *testing.T) {
	f, _ := made(t, "a=abcdefg", "e")
	opens(t, f, 0, "a", "w", 1)
	opens(t, f, 0, "e", "w", 2)
	for _, step := range []struct {
		n    int
		want string
	}{{7, "abcdefg"}, {6, "abcdef"}, {8, "abcdef\x00\x00"}, {3, "abc"}, {3, "abc"}, {4, "abc\x00"}, {0, ""}, {2, "\x00\x00"}} {
		does(t, f, 0, opTruncate(1, step.n), api.OK)
		reads(t, f, 0, opRead(1, 0, 100), step.want)
		has(t, f, "a="+step.want, "e")
	}
	does(t, f, 0, opTruncate(2, 5000), api.OK)
	writes(t, f, 0, opWrite(2, 4999, "x"))
	reads(t, f, 0, opRead(2, 0, 9999), strings.Repeat("\x00", 4999)+"x")
	does(t, f, 0, opTruncate(2, 65536), api.OK)
	reads(t, f, 0, opRead(2, 4998, 3), "\x00x\x00")
	reads(t, f, 0, opRead(2, 65530, 9), strings.Repeat("\x00", 6))
}

// P19.2: what may not be made shorter or longer, and which error comes first.
func TestTruncateRefused(t *testing.T) {
	f, _ := made(t, "a=abc", "b*65536", "c*65536", "d*65536", "e*65530")
	opens(t, f, 0, "a", "w", 1)
	opens(t, f, 0, "a", "", 2)
	for _, c := range []struct {
		handle, n int
		want      api.Errno
	}{
		{1, -1, api.ErrArg}, {1, math.MinInt, api.ErrArg}, {2, 0, api.ErrArg}, {2, 3, api.ErrArg}, {2, -1, api.ErrArg}, {2, 65537, api.ErrArg}, {2, 7, api.ErrArg}, {3, -1, api.ErrHandle}, {3, 65537, api.ErrHandle}, {3, 7, api.ErrHandle},
		{1, 65537, api.ErrTooLarge}, {1, 1 << 32, api.ErrTooLarge}, {1, math.MaxInt, api.ErrTooLarge},
		{1, 7, api.ErrNoSpace}, {1, 8, api.ErrNoSpace}, {1, 65536, api.ErrNoSpace},
	} {
		does(t, f, 0, opTruncate(c.handle, c.n), c.want)
	}
	has(t, f, "a=abc", "b*65536", "c*65536", "d*65536", "e*65530")
	does(t, f, 0, opTruncate(1, 6), api.OK)
	has(t, f, "a=abc\x00\x00\x00", "b*65536", "c*65536", "d*65536", "e*65530")
}

// P19.2: a number that is not open is no handle: one that never was, one of another client, one that was closed, one that may not be.
func TestHandles(t *testing.T) {
	f, _ := made(t, "a=x")
	opens(t, f, 2, "a", "w", 1)
	opens(t, f, 2, "a", "w", 2)
	opens(t, f, 5, "a", "w", 1)
	opens(t, f, 5, "a", "w", 2)
	opens(t, f, 5, "a", "w", 3)
	does(t, f, 5, opClose(1), api.OK)
	for who, open := range map[int][]int{0: nil, 1: nil, 2: {1, 2}, 3: nil, 4: nil, 5: {2, 3}, 6: nil, 7: nil} {
		holds(t, f, who, open...)
		for _, handle := range append(notHandles(), 1, 2, 3, 4, 15, 16) {
			if slices.Contains(open, handle) {
				stands(t, f, who, handle, "a")
				continue
			}
			stands(t, f, who, handle, "")
			for _, op := range []api.Op{opRead(handle, 0, 1), opRead(handle, -1, -1), opWrite(handle, 0, "y"), opWrite(handle, 0, ""), opWrite(handle, -1, ""), opTruncate(handle, 0), opTruncate(handle, -1), opClose(handle)} {
				does(t, f, who, op, api.ErrHandle)
			}
		}
	}
	has(t, f, "a=x")
	does(t, f, 5, opClose(3), api.OK)
	does(t, f, 5, opClose(3), api.ErrHandle)
	does(t, f, 5, opClose(2), api.OK)
	holds(t, f, 5)
	holds(t, f, 2, 1, 2)
}

// P19.2: a handle is open to write, or not, whatever was open by its number ahead.
func TestHandleAgain(t *testing.T) {
	f, _ := made(t, "a=x", "b=y")
	for range 3 {
		opens(t, f, 0, "a", "w", 1)
		writes(t, f, 0, opWrite(1, 0, "z"))
		does(t, f, 0, opClose(1), api.OK)
		opens(t, f, 0, "b", "", 1)
		does(t, f, 0, opWrite(1, 0, "z"), api.ErrArg)
		does(t, f, 0, opTruncate(1, 0), api.ErrArg)
		reads(t, f, 0, opRead(1, 0, 9), "y")
		does(t, f, 0, opClose(1), api.OK)
	}
	has(t, f, "a=z", "b=y")
}

// P19.2: directories and names, by what the text means.
func TestMkdirList(t *testing.T) {
	f, _ := made(t, "a=x", "d/b=y", "d/a b")
	does(t, f, 0, opMkdir("e"), api.OK)
	does(t, f, 1, opMkdir("/d//./e/../c/"), api.OK)
	has(t, f, "a=x", "d/", "d/a b", "d/b=y", "d/c/", "e/")
	for _, p := range []string{"", "/", ".", "..", "d/..", "x/../"} {
		answers(t, f, 2, opList(p), api.Result{Names: []string{"a", "d", "e"}})
		does(t, f, 2, opMkdir(p), api.ErrExists)
	}
	answers(t, f, 2, opList("d/"), api.Result{Names: []string{"a b", "b", "c"}})
	answers(t, f, 2, opList("./d/c"), api.Result{})
	for text, want := range wrongTexts() {
		does(t, f, 0, opMkdir(text), want)
		does(t, f, 0, opList(text), want)
	}
	for p, want := range map[string]api.Errno{"a": api.ErrExists, "d": api.ErrExists, "d/b/": api.ErrExists, "a/b": api.ErrFile, "d/b/c": api.ErrFile, "f/g": api.ErrNone, "d/d/d": api.ErrNone} {
		does(t, f, 0, opMkdir(p), want)
	}
	for p, want := range map[string]api.Errno{"a": api.ErrFile, "a/b": api.ErrFile, "d/b/c": api.ErrFile, "f": api.ErrNone, "d/d/d": api.ErrNone} {
		does(t, f, 0, opList(p), want)
	}
	has(t, f, "a=x", "d/", "d/a b", "d/b=y", "d/c/", "e/")
	f, _ = made(t, append(many(127), "d/")...)
	does(t, f, 0, opMkdir("e"), api.ErrNoSpace)
	does(t, f, 0, opMkdir("d"), api.ErrExists)
}

// P19.2: OpRemove of what nobody has open.
func TestRemove(t *testing.T) {
	f, _ := made(t, "a=xyz", "d/b*5000", "d/e/", "c")
	for text, want := range wrongTexts() {
		does(t, f, 0, opRemove(text), want)
	}
	for p, want := range map[string]api.Errno{"": api.ErrBusy, "/": api.ErrBusy, "d": api.ErrBusy, "a/b": api.ErrFile, "f": api.ErrNone, "d/f": api.ErrNone, "f/g": api.ErrNone} {
		does(t, f, 0, opRemove(p), want)
	}
	has(t, f, "a=xyz", "c", "d/", "d/b*5000", "d/e/")
	does(t, f, 0, opRemove("//a/."), api.OK)
	has(t, f, "c", "d/", "d/b*5000", "d/e/")
	does(t, f, 1, opRemove("d/e"), api.OK)
	does(t, f, 1, opRemove("d/b"), api.OK)
	does(t, f, 1, opRemove("d"), api.OK)
	does(t, f, 1, opRemove("a"), api.ErrNone)
	has(t, f, "c")
}

// P19.2: a file that is open, by anybody, in any way, wherever it was renamed to, is not removed; others are.
func TestRemoveBusy(t *testing.T) {
	for who := range 8 {
		for handle := 1; handle <= 16; handle += 5 {
			f, _ := made(t, "a=x", "b=y", "d/")
			for k := range handle {
				opens(t, f, who, []string{"b", "a"}[(k+1)/handle], "", k+1)
			}
			for k := range handle - 1 {
				does(t, f, who, opClose(k+1), api.OK)
			}
			for other := range 8 {
				does(t, f, other, opRemove("a"), api.ErrBusy)
			}
			does(t, f, 0, opRename("a", "d/c"), api.OK)
			does(t, f, 0, opRemove("d/c"), api.ErrBusy)
			does(t, f, 0, opRemove("d"), api.ErrBusy)
			does(t, f, 0, opRemove("b"), api.OK)
			does(t, f, 0, opRemove("b"), api.ErrNone)
			does(t, f, 0, opRemove("d/c/e"), api.ErrFile)
			reads(t, f, who, opRead(handle, 0, 9), "x")
			has(t, f, "d/", "d/c=x")
			does(t, f, who, opClose(handle), api.OK)
			does(t, f, 0, opRemove("d/c"), api.OK)
			does(t, f, 0, opRemove("d"), api.OK)
			has(t, f)
		}
	}
	f, _ := made(t, "a=x")
	opens(t, f, 0, "a", "w", 1)
	opens(t, f, 1, "a", "", 1)
	does(t, f, 0, opClose(1), api.OK)
	does(t, f, 0, opRemove("a"), api.ErrBusy)
	does(t, f, 1, opClose(1), api.OK)
	does(t, f, 0, opRemove("a"), api.OK)
}

// P19.2: OpRename: what is open goes on, and is told by its new path.
func TestRename(t *testing.T) {
	f, _ := made(t, "a=x", "d/b*9000", "d/e/c=z", "g/")
	opens(t, f, 0, "d/b", "w", 1)
	opens(t, f, 0, "d/e/c", "", 2)
	opens(t, f, 1, "a", "w", 1)
	does(t, f, 2, opRename("d", "/g/../g/h"), api.OK)
	stands(t, f, 0, 1, "g/h/b")
	stands(t, f, 0, 2, "g/h/e/c")
	stands(t, f, 1, 1, "a")
	has(t, f, "a=x", "g/", "g/h/", "g/h/b="+string(pattern("d/b", 9000)), "g/h/e/", "g/h/e/c=z")
	writes(t, f, 0, opWrite(1, 0, "new"))
	does(t, f, 0, opTruncate(1, 3), api.OK)
	does(t, f, 2, opRename("a", "d"), api.OK)
	does(t, f, 2, opRename("g/h/e", "a"), api.OK)
	stands(t, f, 0, 1, "g/h/b")
	stands(t, f, 0, 2, "a/c")
	stands(t, f, 1, 1, "d")
	writes(t, f, 1, opWrite(1, 1, "y"))
	has(t, f, "a/", "a/c=z", "d=xy", "g/", "g/h/", "g/h/b=new")
	// A file that was moved away leaves its path to another one.
	opens(t, f, 1, "b", "wc", 2)
	does(t, f, 1, opRename("d", "g/d"), api.OK)
	does(t, f, 1, opRename("b", "d"), api.OK)
	stands(t, f, 1, 1, "g/d")
	stands(t, f, 1, 2, "d")
	has(t, f, "a/", "a/c=z", "d", "g/", "g/d=xy", "g/h/", "g/h/b=new")
}

// P19.2: OpRename's errors, and which one comes first.
func TestRenameRefused(t *testing.T) {
	f, _ := made(t, "a=x", "d/b=y", "e/")
	opens(t, f, 0, "a", "", 1)
	opens(t, f, 0, "d/b", "", 2)
	for text, want := range wrongTexts() {
		for _, p := range []string{"a", "d", "", "x", "a/b", "\\"} {
			does(t, f, 0, opRename(text, p), want)
		}
		for _, p := range []string{"a", "d", "", "x", "a/b"} {
			does(t, f, 0, opRename(p, text), want)
		}
	}
	does(t, f, 0, opRename("\\", strings.Repeat("x", 1025)), api.ErrName)
	does(t, f, 0, opRename(strings.Repeat("x", 1025), "\\"), api.ErrTooLarge)
	for _, c := range []struct {
		from, to string
		want     api.Errno
	}{
		{"x", "y", api.ErrNone}, {"a/b", "y", api.ErrFile}, {"", "y", api.ErrBusy}, {"/", "a", api.ErrBusy}, {"a", "", api.ErrExists}, {"a", "/", api.ErrExists}, {"a", "x/y", api.ErrNone}, {"a", "d/b/c", api.ErrFile}, {"d", "d/c", api.ErrBusy}, {"a", "d", api.ErrExists}, {"d", "e", api.ErrExists}, {"a", "d/b", api.ErrExists},
		{"a", "./a", api.OK}, {"d", "e/../d", api.OK}, {"d/b", "d//b", api.OK},
	} {
		does(t, f, 0, opRename(c.from, c.to), c.want)
	}
	does(t, f, 0, opMkdir("e/e"), api.OK)
	does(t, f, 0, opRename("d", "e/e/d"), api.OK)
	does(t, f, 0, opRename("e", "d"), api.OK)
	stands(t, f, 0, 1, "a")
	stands(t, f, 0, 2, "d/e/d/b")
	has(t, f, "a=x", "d/", "d/e/", "d/e/d/", "d/e/d/b=y")
	for _, p := range []string{"h", "h/i", "h/i/j", "h/i/j/k", "h/i/j/k/l"} {
		does(t, f, 0, opMkdir(p), api.OK)
	}
	does(t, f, 0, opRename("d", "h/i/j/k/l/d"), api.ErrName)
	stands(t, f, 0, 2, "d/e/d/b")
}

// P19.2, P19.3: how many bytes are used, up to 2^18, and what gives room again.
func TestQuota(t *testing.T) {
	f, _ := made(t, "a*65536", "b*65536", "c*65536", "d*65535")
	opens(t, f, 0, "d", "w", 1)
	opens(t, f, 0, "e", "wc", 2)
	opens(t, f, 0, "a", "w", 3)
	does(t, f, 0, opWrite(2, 0, "xy"), api.ErrNoSpace)
	does(t, f, 0, opWrite(2, 1, "y"), api.ErrNoSpace)
	does(t, f, 0, opTruncate(2, 2), api.ErrNoSpace)
	writes(t, f, 0, opWrite(2, 0, "x"))
	if f.Used() != 1<<18 {
		t.Fatalf("Used() = %d", f.Used())
	}
	// What is there already may be written anew.
	writes(t, f, 0, opWrite(1, 65534, "z"))
	writes(t, f, 0, opWrite(3, 0, strings.Repeat("w", 65536)))
	writes(t, f, 0, opWrite(2, 0, "v"))
	does(t, f, 0, opTruncate(2, 1), api.OK)
	does(t, f, 0, opTruncate(3, 65536), api.OK)
	does(t, f, 0, opWrite(1, 65535, "z"), api.ErrNoSpace)
	does(t, f, 0, opTruncate(1, 65536), api.ErrNoSpace)
	does(t, f, 0, opWrite(2, 1, "z"), api.ErrNoSpace)
	has(t, f, "a="+strings.Repeat("w", 65536), "b*65536", "c*65536", "d="+string(pattern("d", 65534))+"z", "e=v")
	does(t, f, 0, opTruncate(3, 65530), api.OK)
	writes(t, f, 0, opWrite(2, 1, "uts"))
	does(t, f, 0, opWrite(2, 4, "rqpo"), api.ErrNoSpace)
	does(t, f, 0, opRemove("b"), api.OK)
	does(t, f, 0, opTruncate(2, 65536), api.OK)
	does(t, f, 0, opTruncate(1, 65536), api.OK)
	does(t, f, 0, opTruncate(3, 65536), api.OK)
	opens(t, f, 0, "b", "wc", 4)
	does(t, f, 0, opWrite(4, 0, "x"), api.ErrNoSpace)
	// Room for files is not room for bytes.
	opens(t, f, 0, "g", "wc", 5)
	does(t, f, 0, opMkdir("h"), api.OK)
	if f.Used() != 1<<18 {
		t.Fatalf("Used() = %d", f.Used())
	}
}

// edges are places in files, and numbers of bytes, near to where blocks end.
func edges() []int {
	return []int{0, 1, 2, 4095, 4096, 4097, 8191, 8192, 8193, 9000, 12288, 65535, 65536}
}

// P19.4: one write, of whatever place and length, over a file of whatever length.
func TestWriteBytes(t *testing.T) {
	for _, size := range edges() {
		for _, at := range edges() {
			for _, n := range edges() {
				if at+n > 65536 || n == 0 {
					continue
				}
				f, base := made(t, "a*"+strconv.Itoa(size))
				want := append(bytes.Clone(base.files["a"]), make([]byte, max(at+n-size, 0))...)
				data := pattern("data", n)
				copy(want[at:], data)
				opens(t, f, 0, "a", "w", 1)
				writes(t, f, 0, opWrite(1, at, string(data)))
				reads(t, f, 0, opRead(1, 0, 65536), string(want))
				has(t, f, "a="+string(want))
				if !bytes.Equal(base.files["a"], pattern("a", size)) {
					t.Fatalf("the base of %d bytes was changed by a write of %d bytes at %d", size, n, at)
				}
			}
		}
	}
}

// P19.4: what was cut off does not come back, be it the base's or what was written; what was not stays.
func TestTruncateBytes(t *testing.T) {
	for _, size := range edges() {
		for _, n := range edges() {
			for _, more := range edges() {
				for _, step := range []string{"", "written", "one"} {
					f, base := made(t, "a*"+strconv.Itoa(size))
					want := bytes.Clone(base.files["a"])
					opens(t, f, 0, "a", "w", 1)
					switch {
					case step == "written":
						want = pattern("data", size)
						writes(t, f, 0, opWrite(1, 0, string(want)))
					case step == "one" && size > 0:
						want[size*2/3] = 0
						writes(t, f, 0, opWrite(1, size*2/3, "\x00"))
					}
					for _, n := range []int{n, more} {
						want = append(bytes.Clone(want[:min(n, len(want))]), make([]byte, max(n-len(want), 0))...)
						does(t, f, 0, opTruncate(1, n), api.OK)
						has(t, f, "a="+string(want))
					}
					if more < 65536 {
						want = append(want, make([]byte, 65536-more)...)
						want[65535] = 'x'
						writes(t, f, 0, opWrite(1, 65535, "x"))
						has(t, f, "a="+string(want))
					}
				}
			}
		}
	}
}

// What was cut off is not kept, nor what stands in a file that is removed.
func TestLetGo(t *testing.T) {
	f, _ := made(t, "a*65536")
	opens(t, f, 0, "a", "w", 1)
	writes(t, f, 0, opWrite(1, 0, string(pattern("data", 65536))))
	for _, n := range []int{65536, 65535, 61441, 61440, 61439, 4097, 4096, 1, 0} {
		does(t, f, 0, opTruncate(1, n), api.OK)
		kept := 0
		for _, b := range f.files[0].own {
			if b != nil {
				kept++
			}
		}
		if kept != (n+4095)/4096 {
			t.Fatalf("of %d bytes %d blocks are kept", n, kept)
		}
	}
	does(t, f, 0, opClose(1), api.OK)
	does(t, f, 0, opRemove("a"), api.OK)
	if f.files != [128]*file{} {
		t.Fatal("a file that was removed is kept")
	}
}

// P19.4: what is read, of whatever place and length, from the base, from what was written, and from where both meet.
func TestReadBytes(t *testing.T) {
	for _, size := range edges() {
		for _, step := range []string{"base", "one", "all"} {
			f, base := made(t, "a*"+strconv.Itoa(size))
			want := bytes.Clone(base.files["a"])
			opens(t, f, 0, "a", "w", 1)
			switch {
			case step == "one" && size > 4096:
				want[4096] = 0
				writes(t, f, 0, opWrite(1, 4096, "\x00"))
			case step == "all":
				want = pattern("data", size)
				writes(t, f, 0, opWrite(1, 0, string(want)))
			}
			for _, at := range edges() {
				for _, n := range edges() {
					from := min(at, size)
					reads(t, f, 0, opRead(1, at, n), string(want[from:min(from+n, size)]))
				}
			}
		}
	}
}

// P19.4: a file reads what was written by any handle of it, and no other file does.
func TestShared(t *testing.T) {
	f, _ := made(t, "a*5000", "b*5000")
	opens(t, f, 0, "a", "w", 1)
	opens(t, f, 1, "a", "w", 1)
	opens(t, f, 1, "b", "", 2)
	opens(t, f, 2, "/a", "", 1)
	writes(t, f, 0, opWrite(1, 4095, "xy"))
	writes(t, f, 1, opWrite(1, 4096, "zz"))
	reads(t, f, 2, opRead(1, 4095, 3), "xzz")
	does(t, f, 0, opTruncate(1, 4097), api.OK)
	reads(t, f, 2, opRead(1, 4095, 3), "xz")
	reads(t, f, 1, opRead(2, 4095, 3), string(pattern("b", 5000)[4095:4098]))
	does(t, f, 0, opClose(1), api.OK)
	reads(t, f, 2, opRead(1, 4095, 3), "xz")
	has(t, f, "a="+string(pattern("a", 4095))+"xz", "b*5000")
}

// P19.5: what a client does leaves the handles of all others as they are.
func TestApart(t *testing.T) {
	for run := range uint32(100) {
		seed := run*7919 + 11
		f, _ := made(t, "a=x", "b=y", "d/c*5000", "d/e/")
		ops := []api.Op{opOpen("a", "w"), opOpen("b", ""), opOpen("d/c", "w"), opOpen("n", "wc"), opOpen("d/e/n", "c"), opClose(1), opClose(2), opClose(3), opClose(16), opWrite(1, 3, "z"), opWrite(2, 5000, "zz"), opTruncate(1, 0), opTruncate(3, 4097), opRead(1, 0, 9), opMkdir("m"), opRemove("a"), opRemove("b"), opRemove("n"), opRemove("d/c"), opList("")}
		for range 150 {
			who, op := next(&seed, 8), ops[next(&seed, len(ops))]
			var open [8][]int
			var at [8][17]string
			for c := range 8 {
				open[c] = f.Handles(c)
				for h := range 17 {
					at[c][h] = f.File(c, h)
				}
			}
			f.Do(who, op)
			for c := range 8 {
				if c == who {
					continue
				}
				holds(t, f, c, open[c]...)
				for h := range 17 {
					stands(t, f, c, h, at[c][h])
				}
			}
		}
	}
}

// asked fails unless just these blocks were asked for since it was asked last.
func (b *based) was(t *testing.T, want ...api.Key) {
	t.Helper()
	if !slices.Equal(b.asked, want) {
		t.Fatalf("the base was asked for %v, want %v", b.asked, want)
	}
	b.asked = nil
}

// P19.6: the base is asked for blocks that are its own yet, by the first name.
func TestBase(t *testing.T) {
	f, base := made(t, "a*9000", "b", "d/c*4096")
	opens(t, f, 0, "a", "w", 1)
	opens(t, f, 0, "d/c", "w", 2)
	opens(t, f, 0, "b", "w", 3)
	base.was(t)
	reads(t, f, 0, opRead(1, 4095, 2), string(pattern("a", 9000)[4095:4097]))
	base.was(t, api.Key{File: "a", I: 0}, api.Key{File: "a", I: 1})
	does(t, f, 0, opRename("a", "e"), api.OK)
	does(t, f, 0, opRename("d", "a"), api.OK)
	reads(t, f, 0, opRead(1, 8192, 9000), string(pattern("a", 9000)[8192:]))
	base.was(t, api.Key{File: "a", I: 2})
	reads(t, f, 0, opRead(2, 4096, 1), "")
	reads(t, f, 0, opRead(3, 0, 1), "")
	base.was(t)
	reads(t, f, 0, opRead(2, 4095, 9), string(pattern("d/c", 4096)[4095:]))
	base.was(t, api.Key{File: "d/c", I: 0})
	writes(t, f, 0, opWrite(1, 5000, "x"))
	base.asked = nil
	reads(t, f, 0, opRead(1, 4096, 4096), string(pattern("a", 5000)[4096:])+"x"+string(pattern("a", 8192)[5001:]))
	base.was(t)
}

// P19.6: what stands where the base had something is not the base's: a new file of an old name, what was cut off, what was never there.
func TestBaseGone(t *testing.T) {
	f, base := made(t, "a*9000", "b*9000", "c*5000")
	does(t, f, 0, opRemove("a"), api.OK)
	opens(t, f, 0, "a", "wc", 1)
	does(t, f, 0, opTruncate(1, 9000), api.OK)
	has(t, f, "a="+strings.Repeat("\x00", 9000), "b*9000", "c*5000")
	does(t, f, 0, opRename("b", "d"), api.OK)
	opens(t, f, 0, "b", "wc", 2)
	writes(t, f, 0, opWrite(2, 4096, "x"))
	has(t, f, "a="+strings.Repeat("\x00", 9000), "b="+strings.Repeat("\x00", 4096)+"x", "c*5000", "d="+string(pattern("b", 9000)))
	opens(t, f, 0, "c", "w", 3)
	does(t, f, 0, opTruncate(3, 4096), api.OK)
	does(t, f, 0, opTruncate(3, 20000), api.OK)
	base.asked = nil
	reads(t, f, 0, opRead(3, 4096, 20000), strings.Repeat("\x00", 20000-4096))
	base.was(t)
	reads(t, f, 0, opRead(3, 4095, 2), string(pattern("c", 4096)[4095:])+"\x00")
	base.was(t, api.Key{File: "c", I: 0})
	does(t, f, 0, opTruncate(3, 0), api.OK)
	writes(t, f, 0, opWrite(3, 4000, "x"))
	reads(t, f, 0, opRead(3, 0, 9000), strings.Repeat("\x00", 4000)+"x")
	reads(t, f, 0, opRead(1, 0, 9000), strings.Repeat("\x00", 9000))
	base.was(t)
}

// P19.6: of a file the base has as many blocks as its bytes fill, however many they are.
func TestBaseBlocks(t *testing.T) {
	for _, size := range edges() {
		f, base := made(t, "a*"+strconv.Itoa(size), "b")
		opens(t, f, 0, "a", "w", 1)
		does(t, f, 0, opTruncate(1, 65536), api.OK)
		reads(t, f, 0, opRead(1, 0, 65536), string(append(pattern("a", size), make([]byte, 65536-size)...)))
		for k := range 16 {
			writes(t, f, 0, opWrite(1, k*4096+2000, "x"))
		}
		if n := (size + 4095) / 4096; slices.IndexFunc(base.asked, func(k api.Key) bool { return k.File != "a" || k.I < 0 || k.I >= n }) >= 0 {
			t.Fatalf("a of %d bytes: the base was asked for %v", size, base.asked)
		}
		base.asked = nil
		for range 2 {
			f.Files()
			reads(t, f, 0, opRead(1, 0, 0), "")
			base.was(t)
		}
	}
}

// What is no files, or such that New did not make, answers ErrNil, and does nothing.
func TestNil(t *testing.T) {
	for _, f := range []*FS{nil, {}, new(FS)} {
		for range 2 {
			for who := -1; who < 9; who++ {
				for _, op := range []api.Op{{}, {Kind: 11}, {Kind: api.OpFlush}, opOpen("a", "wc"), opOpen("\\", ""), opRead(1, 0, 1), opRead(0, -1, 1), opWrite(1, 0, "y"), opTruncate(1, 0), opClose(1), opMkdir("d"), opRemove("a"), opRename("a", "b"), opList("")} {
					does(t, f, who, op, api.ErrNil)
				}
				holds(t, f, who)
				for handle := range 17 {
					stands(t, f, who, handle, "")
				}
			}
			has(t, f)
		}
	}
}

// What is handed in is neither changed nor kept; the base's bytes are not written, nor what stands behind a block.
func TestHandedIn(t *testing.T) {
	l, base := listed(t, "d/b*5000", "a=xy", "c/")
	given := slices.Clone(l)
	f, err := New(l[:2], base)
	if err != api.OK || !slices.Equal(l, given) {
		t.Fatalf("New: error %d, the list is %v", err, l)
	}
	l[0], l[1] = api.Meta{Name: "q", Size: 1}, api.Meta{}
	has(t, f, "a=xy", "d/", "d/b*5000")
	opens(t, f, 0, "a", "w", 1)
	opens(t, f, 0, "d/b", "w", 2)
	all := []byte("abcdef")
	writes(t, f, 0, api.Op{Kind: api.OpWrite, Handle: 1, At: 1, Data: all[:3]})
	writes(t, f, 0, api.Op{Kind: api.OpWrite, Handle: 2, At: 4095, Data: all[:3]})
	writes(t, f, 0, api.Op{Kind: api.OpWrite, Handle: 2, At: 8192, Data: all[:3]})
	if string(all) != "abcdef" {
		t.Fatalf("OpWrite changed %q", all)
	}
	copy(all, "qqqqqq")
	want := append(pattern("d/b", 5000), make([]byte, 3195)...)
	copy(want[4095:], "abc")
	copy(want[8192:], "abc")
	has(t, f, "a=xabc", "d/", "d/b="+string(want))
	if !bytes.Equal(base.files["d/b"], pattern("d/b", 5000)) || string(base.files["a"]) != "xy" {
		t.Fatal("the base was changed")
	}
}

// An answer is new memory: of the base's bytes, too, and of what was written.
func TestNewMemory(t *testing.T) {
	f, base := made(t, "a*5000", "d/b=x", "d/c")
	opens(t, f, 0, "a", "w", 1)
	writes(t, f, 0, opWrite(1, 4096, "yyy"))
	want := string(pattern("a", 4096)) + "yyy" + string(pattern("a", 5000)[4099:])
	for range 2 {
		data := f.Do(0, opRead(1, 0, 4096)).Data
		more := f.Do(0, opRead(1, 4096, 9)).Data
		names := f.Do(0, opList("d")).Names
		open := f.Handles(0)
		files := f.Files()
		clear(append(data, 1, 2, 3))
		clear(data)
		clear(more)
		names[0], names[1], open[0] = "q", "q", 9
		clear(files[0].Data)
		files[1].Name, files[2].Data[0] = "q", 'q'
		has(t, f, "a="+want, "d/", "d/b=x", "d/c")
		holds(t, f, 0, 1)
		answers(t, f, 0, opList("d"), api.Result{Names: []string{"b", "c"}})
		if !bytes.Equal(base.files["a"], pattern("a", 5000)) {
			t.Fatal("the base was changed")
		}
	}
}

// A text that is answered is not one that was handed in, and no two answers share one.
func TestNewTexts(t *testing.T) {
	p, made := strings.Clone("dir/name"), strings.Clone("made")
	f, err := New([]api.Meta{{Name: p}}, &based{t: t})
	if err != api.OK {
		t.Fatalf("New: error %d", err)
	}
	opens(t, f, 0, p, "", 1)
	opens(t, f, 0, made, "c", 2)
	seen := []string{p, p[4:], made}
	for _, its := range f.files {
		if its != nil && its.name != "" {
			seen = append(seen, its.name)
		}
	}
	for range 2 {
		files := f.Files()
		names := f.Do(0, opList("dir")).Names
		top := f.Do(0, opList("")).Names
		seen = append(seen, files[0].Name, files[1].Name, files[1].Name[4:], files[2].Name, names[0], top[0], top[1], f.File(0, 1), f.File(0, 2))
	}
	places := map[*byte]int{}
	for _, s := range seen {
		places[unsafe.StringData(s)]++
	}
	for _, s := range seen {
		if places[unsafe.StringData(s)] > 1 {
			t.Fatalf("%q stands in two places", s)
		}
	}
}
