package tree

import (
	"bytes"
	"slices"
	"strconv"
	"strings"
	"testing"
	"unsafe"

	"valise/api"
)

// listed tells files by short texts: d/ is a directory, a an empty file, a=x a file with the byte x.
func listed(texts ...string) []api.File {
	var l []api.File
	for _, s := range texts {
		name, data, _ := strings.Cut(s, "=")
		name, dir := strings.CutSuffix(name, "/")
		l = append(l, api.File{Name: name, Dir: dir, Data: []byte(data)})
	}
	return l
}

// told tells files as such texts.
func told(l []api.File) []string {
	var texts []string
	for _, f := range l {
		s := f.Name
		if f.Dir {
			s += "/"
		}
		if len(f.Data) > 0 {
			s += "=" + string(f.Data)
		}
		texts = append(texts, s)
	}
	return texts
}

// made is Of of what may be.
func made(t *testing.T, texts ...string) *Tree {
	t.Helper()
	tr, err := Of(listed(texts...))
	if err != api.OK || tr == nil {
		t.Fatalf("Of(%.200q) = %v, error %d", texts, tr, err)
	}
	return tr
}

// refused fails if Of does not just refuse a list.
func refused(t *testing.T, l []api.File, want api.Errno) {
	t.Helper()
	if tr, err := Of(l); tr != nil || err != want {
		t.Errorf("Of of %d files, %.200q: %v, error %d, want error %d", len(l), told(l), tr, err, want)
	}
}

// is fails if an error is another one.
func is(t *testing.T, err, want api.Errno) {
	t.Helper()
	if err != want {
		t.Fatalf("error %d, want error %d", err, want)
	}
}

// has fails if just these files do not stand in a tree.
func has(t *testing.T, tr *Tree, texts ...string) {
	t.Helper()
	if got := told(tr.Files()); !slices.Equal(got, texts) {
		t.Fatalf("Files: %.300q, want %.300q", got, texts)
	}
}

// finds checks what Find tells; of the root that is /.
func finds(t *testing.T, tr *Tree, p, text string, want api.Errno) {
	t.Helper()
	f, err := tr.Find(p)
	if got := told([]api.File{f})[0]; got != text || err != want {
		t.Fatalf("Find(%.200q) = %.200q, error %d, want %.200q, error %d", p, got, err, text, want)
	}
}

// lists checks what List tells.
func lists(t *testing.T, tr *Tree, p string, names []string, want api.Errno) {
	t.Helper()
	got, err := tr.List(p)
	if err != want || !slices.Equal(got, names) {
		t.Fatalf("List(%.200q) = %.200q, error %d, want %.200q, error %d", p, got, err, names, want)
	}
}

// The longest names and paths that may be, and those that are too long by a byte or by a name.
var (
	name32  = strings.Repeat("n", 32)
	name33  = strings.Repeat("n", 33)
	path120 = strings.Join([]string{name32, name32, name32, name32[:21]}, "/")
	path121 = path120 + "x"
	path8   = "a/b/c/d/e/f/g/h"
	path9   = path8 + "/i"
)

// wrongs are texts that are no paths that may be.
func wrongs() []string {
	return []string{
		"/", "//", "/a", "a/", "a//b", ".", "..", "./a", "a/.", "a/..", "../a", "a/../b", "a/./b", "\\", "a\\b", "a/\\", "\x00", "a\x1f", "\x7f", "a/\x80", "\xff", "é", "a/é/b",
		name33, "a/" + name33, name33 + "/a", path121, path9, strings.Repeat("a/", 60) + "a", strings.Repeat("x", 1<<16), strings.Repeat("a/", 1<<19) + "a",
	}
}

// many tells n names of empty files in a directory, rising.
func many(dir string, n int) []string {
	var l []string
	for k := range n {
		l = append(l, dir+strconv.Itoa(1000+k))
	}
	return l
}

// The chapter's example.
func TestExample(t *testing.T) {
	tr := New()
	is(t, tr.Put("a", []byte("x")), api.OK)
	is(t, tr.Mkdir("d"), api.OK)
	is(t, tr.Rename("a", "d/b"), api.OK)
	has(t, tr, "d/", "d/b=x")
	is(t, tr.Put("d/b/c", []byte("x")), api.ErrFile)
	is(t, tr.Remove("d"), api.ErrBusy)
	finds(t, tr, "e/f", "", api.ErrNone)
	is(t, tr.Rename("d", "d/e"), api.ErrBusy)
	is(t, tr.Rename("d", "d"), api.OK)
	has(t, tr, "d/", "d/b=x")
	has(t, made(t, "a/b/c"), "a/", "a/b/", "a/b/c")
}

// The tests' own paths are as long as they say.
func TestLimits(t *testing.T) {
	if len(path120) != 120 || len(path121) != 121 || strings.Count(path8, "/") != 7 || strings.Count(path9, "/") != 8 {
		t.Fatal("the tests' own paths have other lengths")
	}
}

// P16.1: a new tree has the root alone.
func TestNew(t *testing.T) {
	tr := New()
	if tr == nil {
		t.Fatal("New tells no tree")
	}
	has(t, tr)
	finds(t, tr, "", "/", api.OK)
	lists(t, tr, "", nil, api.OK)
	finds(t, tr, "a", "", api.ErrNone)
	is(t, tr.Mkdir("a"), api.OK)
	has(t, New())
}

// P16.1: the files, in whatever order, and the directories that they stand in.
func TestOf(t *testing.T) {
	has(t, made(t))
	for _, l := range [][]string{{}, nil} {
		has(t, made(t, l...))
	}
	has(t, made(t, "a=x"), "a=x")
	has(t, made(t, "d/"), "d/")
	has(t, made(t, "b=2", "a=1"), "a=1", "b=2")
	has(t, made(t, "a/b=x", "a/"), "a/", "a/b=x")
	has(t, made(t, "a/", "a/b=x"), "a/", "a/b=x")
	has(t, made(t, "a/b/c=x", "a/b/", "a/"), "a/", "a/b/", "a/b/c=x")
	has(t, made(t, "a/b/d", "a/c=1", "a/b/c/"), "a/", "a/b/", "a/b/c/", "a/b/d", "a/c=1")
	has(t, made(t, path8+"=x"), "a/", "a/b/", "a/b/c/", "a/b/c/d/", "a/b/c/d/e/", "a/b/c/d/e/f/", "a/b/c/d/e/f/g/", path8+"=x")
	has(t, made(t, path120), name32+"/", path120[:65]+"/", path120[:98]+"/", path120)
	has(t, made(t, "ab", "a/b", "a b"), "a/", "a/b", "a b", "ab")
	whole := bytes.Repeat([]byte{1, 2, 3, 4}, 1<<14)
	tr, err := Of([]api.File{{Name: "a", Data: whole}, {Name: "d", Dir: true, Data: []byte{}}})
	is(t, err, api.OK)
	has(t, tr, "a="+string(whole), "d/")
}

// P16.1: what may not be of a file by itself.
func TestOfFile(t *testing.T) {
	for _, p := range append(wrongs(), "") {
		for _, f := range []api.File{{Name: p}, {Name: p, Dir: true}, {Name: p, Dir: true, Data: []byte{1}}, {Name: p, Data: make([]byte, 65537)}} {
			refused(t, []api.File{f}, api.ErrName)
			refused(t, []api.File{{Name: "x"}, f, {Name: "x"}}, api.ErrName)
		}
	}
	for _, n := range []int{1, 2, 65536, 65537, 1 << 20} {
		refused(t, []api.File{{Name: "d", Dir: true, Data: make([]byte, n)}}, api.ErrDir)
	}
	for _, n := range []int{65537, 65538, 1 << 17, 1 << 20} {
		refused(t, []api.File{{Name: "a", Data: make([]byte, n)}}, api.ErrTooLarge)
	}
}

// P16.1: of several files that may not be the first one's error, and that ahead of all that files may not be together.
func TestOfFirst(t *testing.T) {
	name, dir, large := api.File{Name: "/"}, api.File{Name: "d", Dir: true, Data: []byte{1}}, api.File{Name: "a", Data: make([]byte, 65537)}
	for _, c := range []struct {
		l    []api.File
		want api.Errno
	}{
		{[]api.File{name, dir, large}, api.ErrName}, {[]api.File{dir, name, large}, api.ErrDir}, {[]api.File{dir, large, name}, api.ErrDir},
		{[]api.File{large, name, dir}, api.ErrTooLarge}, {[]api.File{large, dir, name}, api.ErrTooLarge}, {[]api.File{name, large, dir}, api.ErrName},
	} {
		refused(t, c.l, c.want)
		refused(t, slices.Concat(listed("x", "x", "y", "y/z"), listed(many("", 130)...), c.l), c.want)
		refused(t, slices.Concat(c.l, listed("x", "x", "y", "y/z"), listed(many("", 130)...)), c.want)
	}
}

// P16.1: two Names are one, whatever they are; this ahead of what stands under files, and of the room.
func TestOfExists(t *testing.T) {
	for _, l := range [][]string{
		{"a", "a"}, {"a/", "a/"}, {"a", "a/"}, {"a/", "a"}, {"a=1", "a=2"}, {"a", "b", "a"}, {"a/b", "a/c", "a/b"}, {"a/b/", "a/", "a/b"}, {path8, "b", path8}, {path120, path120},
		{"a", "a/b", "c", "c"}, {"c", "c", "a", "a/b"}, {"a", "a/b", "a/b"}, {"a", "a", "a/b"}, {"a/b", "a", "a/"},
		append(many("", 130), "1129"), append(many("d/", 129), "d/1000"), append(many("d/", 129), "d", "d/1128"),
	} {
		refused(t, listed(l...), api.ErrExists)
	}
}

// P16.1: a file has another one under it, however far, whatever comes first and whatever is beside; this ahead of the room.
func TestOfUnder(t *testing.T) {
	for _, l := range [][]string{
		{"a", "a/b"}, {"a/b", "a"}, {"a", "a/b/"}, {"a/b/c", "a"}, {"a", "a/b/c/d"}, {"a/b", "a/b/c"}, {"a/", "a/b", "a/b/c"}, {"a b", "a", "a!", "a/b"}, {"a", "ab", "a/b", "a.b"},
		{path8, "a/b/c/d"}, {"a/b/c/d/e/f/g", path8}, {path120, path120[:98]}, {path120, name32}, {"a", "a/b", "c", "c/d"}, {"b", "a/b", "a/b/c", "c"},
		append(many("d/", 129), "d"), append(many("a", 130), "x", "x/y"),
	} {
		refused(t, listed(l...), api.ErrFile)
	}
	for _, l := range [][]string{{"a/", "a/b"}, {"a", "ab"}, {"a", "ab/c"}, {"a", "a b", "a.b"}, {"a/b", "a/bc"}, {"a/b", "b/b"}, {"a/b", "a/c/b"}} {
		made(t, l...)
	}
}

// P16.1: a tree has room for 128 files and directories, among them those that files stand in.
func TestOfRoom(t *testing.T) {
	has(t, made(t, many("", 128)...), many("", 128)...)
	has(t, made(t, many("d/", 127)...), append([]string{"d/"}, many("d/", 127)...)...)
	has(t, made(t, append(many("d/", 127), "d/")...), append([]string{"d/"}, many("d/", 127)...)...)
	made(t, append(many("", 120), path8)...)
	made(t, append(many("", 120), path8, "a/", "a/b/", "a/b/c/d/e/f/g/")...)
	for _, l := range [][]string{
		many("", 129), many("", 130), many("d/", 128), append(many("d/", 128), "d/"), many("d/e/", 127), append(many("", 128), "d/"), append(many("", 121), path8), append(many("", 127), "x/y"), append(many("x/", 127), "y/"),
		many("", 1000), many("d/", 100000),
	} {
		refused(t, listed(l...), api.ErrNoSpace)
	}
}

// P16.2: all but the root, in path's order: names by name, each directory ahead of what stands in it.
func TestFiles(t *testing.T) {
	rising := []string{
		" /", " /x", " !", "!", "-/", "-/a", "-a", "...", ".a", "0/", "0/0", "00", "A", "B", "a/", "a/ ", "a/a/", "a/a/a/", "a/a/a/b", "a/a b", "a/ab", "a/b", "a/~",
		"a ", "a !", "a b/", "a b/c", "a!", "a-/", "a-/b", "a.", "a.b", "aa", "ab/", "ab/a", "b", "~/", "~/~", "~~",
	}
	has(t, made(t, rising...), rising...)
	backward := slices.Clone(rising)
	slices.Reverse(backward)
	has(t, made(t, backward...), rising...)
	tr := New()
	for k := range rising {
		// By one that is prime to how many there are, so that all come, in no simple order; what a directory has may come ahead of it.
		lay(t, tr, rising[k*7%len(rising)])
	}
	has(t, tr, rising...)
}

// lay puts a file, or makes a directory, and ahead of it those that it stands in, as far as they are not there.
func lay(t *testing.T, tr *Tree, text string) {
	t.Helper()
	f := listed(text)[0]
	for at, c := range f.Name {
		if c == '/' {
			if err := tr.Mkdir(f.Name[:at]); err != api.OK {
				is(t, err, api.ErrExists)
			}
		}
	}
	if !f.Dir {
		is(t, tr.Put(f.Name, f.Data), api.OK)
	} else if err := tr.Mkdir(f.Name); err != api.OK {
		is(t, err, api.ErrExists)
	}
}

// P16.2: what stands at a path, and the names in a directory, rising.
func TestFindList(t *testing.T) {
	tr := made(t, "d/", "d/a=x", "d/e/", "d/e/f=yz", "d/b", "g/", "h", "d b", "d/a b", "d/e/c/")
	for p, text := range map[string]string{"": "/", "d": "d/", "d/a": "d/a=x", "d/e": "d/e/", "d/e/f": "d/e/f=yz", "d/b": "d/b", "g": "g/", "h": "h", "d b": "d b", "d/e/c": "d/e/c/"} {
		finds(t, tr, p, text, api.OK)
	}
	lists(t, tr, "", []string{"d", "d b", "g", "h"}, api.OK)
	lists(t, tr, "d", []string{"a", "a b", "b", "e"}, api.OK)
	lists(t, tr, "d/e", []string{"c", "f"}, api.OK)
	lists(t, tr, "g", nil, api.OK)
	lists(t, tr, "d/e/c", nil, api.OK)
	lists(t, made(t, path8), "a/b/c/d/e/f/g", []string{"h"}, api.OK)
	lists(t, made(t, path120), path120[:98], []string{path120[99:]}, api.OK)
	finds(t, made(t, path120+"=x"), path120, path120+"=x", api.OK)
	finds(t, made(t, path8+"/"), path8, path8+"/", api.OK)
}

// misses are paths, and the error of looking for each, in a tree of d/, d/a=x, d/e/ and h.
func misses() map[string]api.Errno {
	l := map[string]api.Errno{
		"a": api.ErrNone, "D": api.ErrNone, "dd": api.ErrNone, "d/c": api.ErrNone, "d/e/a": api.ErrNone, "e": api.ErrNone, "a/h": api.ErrNone, "d/d/a": api.ErrNone, "d/h": api.ErrNone, "...": api.ErrNone, path8: api.ErrNone, path120: api.ErrNone,
		"h/a": api.ErrFile, "h/h": api.ErrFile, "d/a/b": api.ErrFile, "d/a/b/c": api.ErrFile, "h/a/b/c/d/e/f/g": api.ErrFile,
	}
	for _, p := range wrongs() {
		l[p] = api.ErrName
	}
	l["h/"], l["h/.."], l["d/a/"+name33], l["h/a/b/c/d/e/f/g/i"], l["h//"], l["d/"], l["c/\\"] = api.ErrName, api.ErrName, api.ErrName, api.ErrName, api.ErrName, api.ErrName, api.ErrName
	return l
}

// P16.2: the error of looking for a path; of a file no names are listed.
func TestFindListRefused(t *testing.T) {
	tr := made(t, "d/", "d/a=x", "d/e/", "h")
	for p, want := range misses() {
		finds(t, tr, p, "", want)
		lists(t, tr, p, nil, want)
	}
	lists(t, tr, "h", nil, api.ErrFile)
	lists(t, tr, "d/a", nil, api.ErrFile)
	has(t, tr, "d/", "d/a=x", "d/e/", "h")
}

// P16.3: an empty directory.
func TestMkdir(t *testing.T) {
	tr := New()
	for _, p := range []string{"b", "a", "a/b", "a/ ", "a/b/...", "a b", name32} {
		is(t, tr.Mkdir(p), api.OK)
		finds(t, tr, p, p+"/", api.OK)
		lists(t, tr, p, nil, api.OK)
	}
	has(t, tr, "a/", "a/ /", "a/b/", "a/b/.../", "a b/", "b/", name32+"/")
	for at, c := range path8 + "/" {
		if c == '/' && at > 3 {
			is(t, tr.Mkdir(path8[:at]), api.OK)
		}
	}
	finds(t, tr, path8, path8+"/", api.OK)
}

// P16.3: a file, or other bytes of it.
func TestPut(t *testing.T) {
	tr := made(t, "d/e/", "b=1")
	is(t, tr.Put("a", []byte("x")), api.OK)
	is(t, tr.Put("d/e/a", nil), api.OK)
	is(t, tr.Put("d/c", []byte("longer than that")), api.OK)
	has(t, tr, "a=x", "b=1", "d/", "d/c=longer than that", "d/e/", "d/e/a")
	for _, b := range []string{"y", "", "more of it", "les", "x"} {
		is(t, tr.Put("a", []byte(b)), api.OK)
		is(t, tr.Put("d/e/a", []byte(b+b)), api.OK)
		f, err := tr.Find("a")
		is(t, err, api.OK)
		if string(f.Data) != b {
			t.Fatalf("a has %q, want %q", f.Data, b)
		}
	}
	has(t, tr, "a=x", "b=1", "d/", "d/c=longer than that", "d/e/", "d/e/a=xx")
	for _, n := range []int{65535, 65536} {
		b := bytes.Repeat([]byte{7}, n)
		is(t, tr.Put("b", b), api.OK)
		finds(t, tr, "b", "b="+string(b), api.OK)
	}
}

// P16.3: the error of looking for the directory of a path, that path's own one first, and that ahead of all else.
func TestMakeRefused(t *testing.T) {
	tr := made(t, "d/", "d/a=x", "d/e/", "h")
	large := make([]byte, 65537)
	for p, want := range misses() {
		// A path that goes on from one that may be may be none.
		if want != api.ErrName && (len(p) >= 119 || strings.Count(p, "/") >= 7) {
			continue
		}
		p += "/x"
		is(t, tr.Mkdir(p), want)
		is(t, tr.Put(p, nil), want)
		is(t, tr.Put(p, large), want)
	}
	for _, p := range wrongs() {
		for _, p := range []string{p, "h/" + p, "c/" + p, "d/a/" + p, "d/" + p} {
			is(t, tr.Mkdir(p), api.ErrName)
			is(t, tr.Put(p, []byte("x")), api.ErrName)
			is(t, tr.Put(p, large), api.ErrName)
		}
	}
	has(t, tr, "d/", "d/a=x", "d/e/", "h")
}

// P16.3: what is there already, the root, and what is a file's, or a directory's.
func TestMakeThere(t *testing.T) {
	tr := made(t, "d/", "d/a=x", "d/e/", "h")
	large := make([]byte, 65537)
	is(t, tr.Mkdir(""), api.ErrExists)
	for _, b := range [][]byte{nil, {1}, large} {
		is(t, tr.Put("", b), api.ErrDir)
		is(t, tr.Put("d", b), api.ErrDir)
		is(t, tr.Put("d/e", b), api.ErrDir)
		is(t, tr.Put("h/a", b), api.ErrFile)
		is(t, tr.Put("d/a/d", b), api.ErrFile)
	}
	for _, p := range []string{"d", "d/a", "d/e", "h"} {
		is(t, tr.Mkdir(p), api.ErrExists)
	}
	is(t, tr.Mkdir("h/a"), api.ErrFile)
	is(t, tr.Mkdir("d/a/a"), api.ErrFile)
	for _, p := range []string{"h", "d/a", "new", "d/e/new"} {
		is(t, tr.Put(p, large), api.ErrTooLarge)
		is(t, tr.Put(p, make([]byte, 1<<20)), api.ErrTooLarge)
	}
	has(t, tr, "d/", "d/a=x", "d/e/", "h")
}

// P16.3: there is room for 128 beside the root, whether they were laid one by one or all at once; what is there may be put anew.
func TestRoom(t *testing.T) {
	one := New()
	is(t, one.Mkdir("d"), api.OK)
	for _, p := range many("d/", 126) {
		is(t, one.Put(p, nil), api.OK)
	}
	is(t, one.Mkdir("e"), api.OK)
	all := append(append([]string{"d/"}, many("d/", 126)...), "e/")
	for _, tr := range []*Tree{one, made(t, all...), one.Copy(), made(t, all...).Copy()} {
		full(t, tr, all)
		is(t, tr.Rename("d/1003", "e/x"), api.OK)
		is(t, tr.Rename("d", "e/d"), api.OK)
		is(t, tr.Mkdir("d"), api.ErrNoSpace)
		is(t, tr.Remove("e/x"), api.OK)
		is(t, tr.Remove("e/d/1004"), api.OK)
		is(t, tr.Put("e/x", []byte("x")), api.OK)
		is(t, tr.Put("e/x", []byte("y")), api.OK)
		is(t, tr.Mkdir("e/d/1004"), api.OK)
		is(t, tr.Mkdir("y"), api.ErrNoSpace)
		is(t, tr.Remove("e"), api.ErrBusy)
		is(t, tr.Put("y", nil), api.ErrNoSpace)
	}
}

// full fails unless a tree of these files has no room for one more, and refuses all else as ever.
func full(t *testing.T, tr *Tree, all []string) {
	t.Helper()
	for range 2 {
		for _, p := range []string{"f", "e/f", "d/f"} {
			is(t, tr.Mkdir(p), api.ErrNoSpace)
			is(t, tr.Put(p, []byte("x")), api.ErrNoSpace)
			is(t, tr.Put(p, make([]byte, 65536)), api.ErrNoSpace)
			is(t, tr.Put(p, make([]byte, 65537)), api.ErrTooLarge)
			is(t, tr.Put(p+"/g", nil), api.ErrNone)
			is(t, tr.Mkdir(p+"/g"), api.ErrNone)
		}
		is(t, tr.Mkdir("d"), api.ErrExists)
		is(t, tr.Mkdir("d/1000"), api.ErrExists)
		is(t, tr.Mkdir("d/1000/x"), api.ErrFile)
		is(t, tr.Put("e", nil), api.ErrDir)
		is(t, tr.Put("d/1000", []byte("x")), api.OK)
		is(t, tr.Put("d/1000", nil), api.OK)
		is(t, tr.Remove("d"), api.ErrBusy)
		is(t, tr.Remove("f"), api.ErrNone)
		has(t, tr, all...)
	}
}

// P16.4: a file, or an empty directory, is gone.
func TestRemove(t *testing.T) {
	tr := made(t, "a/b/c=x", "a/b/d/", "a/e", "f/")
	for _, p := range []string{"", "a", "a/b"} {
		is(t, tr.Remove(p), api.ErrBusy)
	}
	is(t, tr.Remove("a/b/c"), api.OK)
	is(t, tr.Remove("a/b/c"), api.ErrNone)
	is(t, tr.Remove("a/b"), api.ErrBusy)
	has(t, tr, "a/", "a/b/", "a/b/d/", "a/e", "f/")
	is(t, tr.Remove("f"), api.OK)
	is(t, tr.Remove("a/b/d"), api.OK)
	is(t, tr.Remove("a/b"), api.OK)
	is(t, tr.Remove("a/b"), api.ErrNone)
	has(t, tr, "a/", "a/e")
	is(t, tr.Remove("a/e"), api.OK)
	is(t, tr.Remove("a"), api.OK)
	has(t, tr)
	is(t, tr.Remove(""), api.ErrBusy)
	is(t, New().Remove(""), api.ErrBusy)
	is(t, tr.Put("a", []byte("y")), api.OK)
	has(t, tr, "a=y")
}

// P16.4: the error of looking for a path.
func TestRemoveRefused(t *testing.T) {
	tr := made(t, "d/", "d/a=x", "d/e/", "h")
	for p, want := range misses() {
		is(t, tr.Remove(p), want)
	}
	has(t, tr, "d/", "d/a=x", "d/e/", "h")
}

// renames checks Rename in a tree, and what stands there behind it: what stood there, if it was refused.
func renames(t *testing.T, files []string, from, to string, want api.Errno, behind ...string) {
	t.Helper()
	tr := made(t, files...)
	if want != api.OK {
		behind = told(tr.Files())
	}
	if err := tr.Rename(from, to); err != want {
		t.Fatalf("Rename(%.200q, %.200q) in %.200q: error %d, want error %d", from, to, files, err, want)
	}
	has(t, tr, behind...)
}

// P16.5: what stood at one path, with all under it, stands at the other one.
func TestRename(t *testing.T) {
	renames(t, []string{"a=x"}, "a", "b", api.OK, "b=x")
	renames(t, []string{"a=x", "d/"}, "a", "d/b", api.OK, "d/", "d/b=x")
	renames(t, []string{"d/e/a=x"}, "d/e/a", "a", api.OK, "a=x", "d/", "d/e/")
	renames(t, []string{"d/"}, "d", "e", api.OK, "e/")
	renames(t, []string{"d/a=x", "d/e/f=y", "d/g/"}, "d", "h", api.OK, "h/", "h/a=x", "h/e/", "h/e/f=y", "h/g/")
	renames(t, []string{"d/a=x", "d/e/f=y", "h/i"}, "d", "h/d", api.OK, "h/", "h/d/", "h/d/a=x", "h/d/e/", "h/d/e/f=y", "h/i")
	renames(t, []string{"d/a=x", "d/e/f=y"}, "d/e", "e", api.OK, "d/", "d/a=x", "e/", "e/f=y")
	renames(t, []string{"d/a=x", "d/e/f=y"}, "d/e", "d/a b", api.OK, "d/", "d/a=x", "d/a b/", "d/a b/f=y")
	renames(t, []string{"d/a=x", "d/b=y"}, "d/a", "d/c", api.OK, "d/", "d/b=y", "d/c=x")
	renames(t, []string{"d/a=x"}, "d", "dd", api.OK, "dd/", "dd/a=x")
	renames(t, []string{"dd/a=x"}, "dd", "d", api.OK, "d/", "d/a=x")
	renames(t, []string{"d/e/f/g=x", "a/"}, "d/e", "a/b", api.OK, "a/", "a/b/", "a/b/f/", "a/b/f/g=x", "d/")
	tr := made(t, "d/a=x", "e=y")
	is(t, tr.Rename("d", "f"), api.OK)
	is(t, tr.Put("f/a", []byte("z")), api.OK)
	is(t, tr.Put("f/b", nil), api.OK)
	is(t, tr.Rename("f/b", "d"), api.OK)
	is(t, tr.Rename("e", "f/e"), api.OK)
	has(t, tr, "d", "f/", "f/a=z", "f/e=y")
	is(t, tr.Remove("f/a"), api.OK)
	is(t, tr.Remove("f/e"), api.OK)
	is(t, tr.Remove("f"), api.OK)
	has(t, tr, "d")
}

// P16.5: with both one path nothing is changed.
func TestRenameSame(t *testing.T) {
	files := []string{"a=x", "d/", "d/e/", "d/e/f=y"}
	for _, p := range []string{"a", "d", "d/e", "d/e/f"} {
		renames(t, files, p, strings.Clone(p), api.OK, files...)
	}
	renames(t, append(files, many("", 124)...), "d", "d", api.OK, append(many("", 124), files...)...)
}

// P16.5: each error, and which one comes first.
func TestRenameRefused(t *testing.T) {
	files := []string{"a=x", "d/", "d/a=y", "d/e/", "d/e/f", "h/"}
	for _, c := range []struct {
		from, to string
		want     api.Errno
	}{
		// What is looked for first.
		{"a/", "b", api.ErrName}, {"a/", "", api.ErrName}, {"a/", "a/", api.ErrName}, {"\\", "d/e", api.ErrName}, {path9, path8, api.ErrName}, {"", "a/", api.ErrBusy}, {"a/b/", "", api.ErrName},
		{"b", "c", api.ErrNone}, {"b", "b", api.ErrNone}, {"b", "c/", api.ErrNone}, {"b", "", api.ErrNone}, {"b", "b/c", api.ErrNone}, {"d/b", "a/b", api.ErrNone}, {"b/c", "a", api.ErrNone}, {"b/c", "x/y", api.ErrNone},
		{"a/b", "c", api.ErrFile}, {"a/b", "a/b", api.ErrFile}, {"a/b", "c/", api.ErrFile}, {"a/b", "x/y", api.ErrFile}, {"d/e/f/g", "", api.ErrFile}, {"d/a/b/c", "a", api.ErrFile},
		// The root, from which.
		{"", "", api.ErrBusy}, {"", "b", api.ErrBusy}, {"", "d", api.ErrBusy}, {"", "a/b", api.ErrBusy}, {"", "x/y", api.ErrBusy}, {"", "d/b", api.ErrBusy}, {"", ".", api.ErrBusy},
		// The directory of the other one.
		{"a", "b/", api.ErrName}, {"a", ".", api.ErrName}, {"d", "x/y/", api.ErrName}, {"d", "d/", api.ErrName}, {"d", "d/..", api.ErrName}, {"a", path9, api.ErrName}, {"a", path121, api.ErrName}, {"a", name33, api.ErrName}, {"a", "a/" + name33, api.ErrName},
		{"a", "", api.ErrExists}, {"d", "", api.ErrExists}, {"d/a", "", api.ErrExists},
		{"a", "b/c", api.ErrNone}, {"a", "d/b/c", api.ErrNone}, {"d", "d/b/c", api.ErrNone}, {"d", "d/x/y/z", api.ErrNone}, {"d", "b/d/e", api.ErrNone},
		{"d", "a/b/c", api.ErrFile}, {"d", "d/a/b/c", api.ErrFile}, {"a", "a/b/c", api.ErrFile}, {"d/a", "d/e/f/g/h", api.ErrFile},
		// A file, where that may be.
		{"d", "a/b", api.ErrFile}, {"d", "a/d", api.ErrFile}, {"a", "a/b", api.ErrFile}, {"a", "a/a", api.ErrFile}, {"d", "d/a/b", api.ErrFile}, {"d", "d/e/f/g", api.ErrFile}, {"d/a", "d/a/b", api.ErrFile},
		// What would stand under itself.
		{"d", "d/b", api.ErrBusy}, {"d", "d/d", api.ErrBusy}, {"d", "d/e/b", api.ErrBusy}, {"d", "d/a", api.ErrBusy}, {"d", "d/e", api.ErrBusy}, {"d", "d/e/f", api.ErrBusy}, {"d/e", "d/e/f", api.ErrBusy}, {"d/e", "d/e/e", api.ErrBusy}, {"h", "h/h", api.ErrBusy},
		// What is there.
		{"a", "d", api.ErrExists}, {"d", "a", api.ErrExists}, {"a", "d/a", api.ErrExists}, {"d/a", "a", api.ErrExists}, {"d/e", "d/a", api.ErrExists}, {"d/e", "d", api.ErrExists}, {"d/e/f", "d/e", api.ErrExists}, {"d", "h", api.ErrExists}, {"h", "d", api.ErrExists},
	} {
		renames(t, files, c.from, c.to, c.want)
	}
}

// P16.5: the path of what stands under a directory may be none there, because it has a byte, or a name, too much; what is there already comes first.
func TestRenameUnder(t *testing.T) {
	deep := []string{"a/b/c/d=x", "p/q/r/s/t/", "p/q/r/s/u/"}
	renames(t, deep, "a", "p/q/r/s/t/a", api.ErrName)
	renames(t, deep, "a", "p/q/r/s/a", api.OK, "p/", "p/q/", "p/q/r/", "p/q/r/s/", "p/q/r/s/a/", "p/q/r/s/a/b/", "p/q/r/s/a/b/c/", "p/q/r/s/a/b/c/d=x", "p/q/r/s/t/", "p/q/r/s/u/")
	renames(t, deep, "a/b", "p/q/r/s/t/b", api.OK, "a/", "p/", "p/q/", "p/q/r/", "p/q/r/s/", "p/q/r/s/t/", "p/q/r/s/t/b/", "p/q/r/s/t/b/c/", "p/q/r/s/t/b/c/d=x", "p/q/r/s/u/")
	renames(t, append(deep, "a/b/c/e/"), "p", "a/b/c/e/p", api.ErrName)
	renames(t, deep, "p", "a/b/c/e", api.OK, "a/", "a/b/", "a/b/c/", "a/b/c/d=x", "a/b/c/e/", "a/b/c/e/q/", "a/b/c/e/q/r/", "a/b/c/e/q/r/s/", "a/b/c/e/q/r/s/t/", "a/b/c/e/q/r/s/u/")
	renames(t, append(deep, "p/q/r/s/t/a"), "a", "p/q/r/s/t/a", api.ErrExists)
	renames(t, append(deep, "a/x/"), "p", "a/x/p", api.OK, "a/", "a/b/", "a/b/c/", "a/b/c/d=x", "a/x/", "a/x/p/", "a/x/p/q/", "a/x/p/q/r/", "a/x/p/q/r/s/", "a/x/p/q/r/s/t/", "a/x/p/q/r/s/u/")
	for n := 1; n <= 32; n++ {
		// 3 and 31 and 32 bytes, a / ahead of each but the first: with a name of 23 behind them it is just a path that may be.
		want, behind := api.OK, []string{"dir/", "dir/" + name32[1:] + "/"}
		at := "dir/" + name32[1:] + "/" + name32
		if n > 120-1-len(at) {
			want = api.ErrName
		}
		renames(t, []string{"a/b", "a/" + name32[:n], "dir/" + name32[1:] + "/"}, "a", at, want, append(behind, at+"/", at+"/b", at+"/"+name32[:n])...)
	}
	renames(t, []string{path120}, name32, name32+" ", api.ErrName)
	renames(t, []string{path120}, name32, name32[1:]+"o", api.OK, slices.Collect(above(name32[1:]+"o"+path120[32:]))...)
	renames(t, []string{path120}, name32, "o", api.OK, slices.Collect(above("o"+path120[32:]))...)
	renames(t, []string{path120, "o/"}, name32, "o/o", api.OK, slices.Collect(above("o/o"+path120[32:]))...)
	renames(t, []string{path8}, "a", "z", api.OK, slices.Collect(above("z"+path8[1:]))...)
	renames(t, []string{path8, "z/"}, "a", "z/a", api.ErrName)
	renames(t, []string{path8, "z/"}, "a/b", "z/b", api.OK, append([]string{"a/"}, slices.Collect(above("z"+path8[1:]))...)...)
	renames(t, []string{path8, "a/z/"}, "a/b", "a/z/b", api.ErrName)
	// A file has nothing under it.
	renames(t, []string{path8, "z"}, "z", "a/b/c/d/e/f/g/z", api.OK, append(slices.Collect(above(path8)), "a/b/c/d/e/f/g/z")...)
}

// above goes through the directories of a path and then the path.
func above(p string) func(yield func(string) bool) {
	return func(yield func(string) bool) {
		for at, c := range p {
			if c == '/' && !yield(p[:at+1]) {
				return
			}
		}
		yield(p)
	}
}

// Another tree alike, of which each goes on by itself.
func TestCopy(t *testing.T) {
	files := []string{"a=x", "d/", "d/e/", "d/e/f=y", "g/"}
	tr := made(t, files...)
	other := tr.Copy()
	has(t, other, files...)
	is(t, tr.Put("a", []byte("z")), api.OK)
	is(t, tr.Put("d/e/h", nil), api.OK)
	is(t, tr.Rename("d/e", "g/e"), api.OK)
	has(t, other, files...)
	is(t, other.Remove("d/e/f"), api.OK)
	is(t, other.Remove("d/e"), api.OK)
	is(t, other.Mkdir("b"), api.OK)
	has(t, tr, "a=z", "d/", "g/", "g/e/", "g/e/f=y", "g/e/h")
	has(t, other, "a=x", "b/", "d/", "g/")
	has(t, New().Copy())
	has(t, other.Copy().Copy(), "a=x", "b/", "d/", "g/")
}

// What is no tree, or one that nothing made, answers ErrNil, and nothing else.
func TestNil(t *testing.T) {
	for _, tr := range []*Tree{nil, {}} {
		for _, p := range []string{"", "a", "a/b", "a/", "\\"} {
			finds(t, tr, p, "", api.ErrNil)
			lists(t, tr, p, nil, api.ErrNil)
			is(t, tr.Mkdir(p), api.ErrNil)
			is(t, tr.Put(p, nil), api.ErrNil)
			is(t, tr.Put(p, make([]byte, 65537)), api.ErrNil)
			is(t, tr.Remove(p), api.ErrNil)
			is(t, tr.Rename(p, "b"), api.ErrNil)
			is(t, tr.Rename("b", p), api.ErrNil)
			is(t, tr.Rename(p, p), api.ErrNil)
		}
		if tr.Files() != nil || tr.Copy() != nil {
			t.Fatalf("Files %v, Copy %v", tr.Files(), tr.Copy())
		}
	}
}

// What is handed in is neither changed nor kept.
func TestHandedIn(t *testing.T) {
	texts := []string{"d/b=xy", "d/a=z", "c/", "a=1", "behind", "a b"}
	l := listed(texts...)
	tr, err := Of(l[:4])
	is(t, err, api.OK)
	if got := told(l); !slices.Equal(got, texts) {
		t.Fatalf("Of changed its list: %q", got)
	}
	l[0].Data[0], l[1].Name, l[2].Dir = 'q', "q", false
	b := []byte("put")
	is(t, tr.Put("p", b), api.OK)
	b[0] = 'q'
	again := []byte("anew")
	is(t, tr.Put("a", again[:3]), api.OK)
	again[0], again[3] = 'q', 'q'
	has(t, tr, "a=ane", "c/", "d/", "d/a=z", "d/b=xy", "p=put")
}

// An answer is new memory.
func TestNewMemory(t *testing.T) {
	files := []string{"a=x", "d/", "d/b=yz", "d/c"}
	tr := made(t, files...)
	for range 2 {
		f, err := tr.Find("d/b")
		is(t, err, api.OK)
		names, err := tr.List("d")
		is(t, err, api.OK)
		all := tr.Files()
		f.Data[0], all[0].Data[0], all[1].Name, all[2].Data[1], names[0], names[1] = 'q', 'q', "q", 'q', "q", "q"
		has(t, tr, files...)
		lists(t, tr, "d", []string{"b", "c"}, api.OK)
		finds(t, tr, "d/b", "d/b=yz", api.OK)
	}
	copied := tr.Copy()
	is(t, copied.Put("a", []byte("q")), api.OK)
	has(t, tr, files...)
}

// A text that is answered is not one that was handed in, and no two answers share one.
func TestNewTexts(t *testing.T) {
	p := strings.Clone("dir/name")
	tr := New()
	is(t, tr.Mkdir(p[:3]), api.OK)
	is(t, tr.Put(p, nil), api.OK)
	f, err := tr.Find(p)
	is(t, err, api.OK)
	seen := []string{p, p[4:], f.Name, f.Name[4:]}
	for range 2 {
		names, err := tr.List("dir")
		is(t, err, api.OK)
		top, err := tr.List("")
		is(t, err, api.OK)
		all := tr.Files()
		seen = append(seen, names[0], top[0], all[0].Name, all[1].Name, all[1].Name[4:])
	}
	places := map[*byte]int{}
	for _, s := range seen {
		places[unsafe.StringData(s)]++
	}
	for _, s := range seen {
		if places[unsafe.StringData(s)] > 1 {
			t.Fatalf("%q stands in two answers", s)
		}
	}
}
