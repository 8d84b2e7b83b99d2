package path

import (
	"slices"
	"strings"
	"testing"
	"unsafe"

	"valise/api"
)

// named checks what Name tells.
func named(t *testing.T, s string, want api.Errno) {
	t.Helper()
	if err := Name(s); err != want {
		t.Errorf("Name(%.200q): error %d, want error %d", s, err, want)
	}
}

// split checks what Split tells.
func split(t *testing.T, p string, names []string, want api.Errno) {
	t.Helper()
	if got, err := Split(p); !slices.Equal(got, names) || err != want {
		t.Errorf("Split(%.200q) = %.200q, error %d, want %.200q, error %d", p, got, err, names, want)
	}
}

// join checks what Join tells.
func join(t *testing.T, l []string, p string, want api.Errno) {
	t.Helper()
	if got, err := Join(l); got != p || err != want {
		t.Errorf("Join(%.200q) = %.200q, error %d, want %.200q, error %d", l, got, err, p, want)
	}
}

// clean checks what Clean tells.
func clean(t *testing.T, s, p string, want api.Errno) {
	t.Helper()
	if got, err := Clean(s); got != p || err != want {
		t.Errorf("Clean(%.200q) = %.200q, error %d, want %.200q, error %d", s, got, err, p, want)
	}
}

// parent checks what Parent tells.
func parent(t *testing.T, p, dir, name string, want api.Errno) {
	t.Helper()
	if gotDir, gotName, err := Parent(p); gotDir != dir || gotName != name || err != want {
		t.Errorf("Parent(%.200q) = %.200q, %.200q, error %d, want %.200q, %.200q, error %d", p, gotDir, gotName, err, dir, name, want)
	}
}

// under checks what Under tells.
func under(t *testing.T, p, dir string, want bool) {
	t.Helper()
	if got := Under(p, dir); got != want {
		t.Errorf("Under(%.200q, %.200q) = %t, want %t", p, dir, got, want)
	}
}

// compared checks what Compare tells.
func compared(t *testing.T, a, b string, want int) {
	t.Helper()
	if got := Compare(a, b); got != want {
		t.Errorf("Compare(%.200q, %.200q) = %d, want %d", a, b, got, want)
	}
}

// The longest names and paths that may be, and those that are a byte, or a name, too long.
var (
	name32  = strings.Repeat("n", 32)
	name33  = strings.Repeat("n", 33)
	path120 = strings.Join([]string{name32, name32, name32, name32[:21]}, "/")
	path121 = path120 + "x"
	names8  = []string{"a", "b", "c", "d", "e", "f", "g", "h"}
	path8   = "a/b/c/d/e/f/g/h"
	path9   = path8 + "/i"
	full8   = strings.Repeat("fourteen bytes/", 7) + "fifteen bytes a"
)

// wrongs are texts that may not be, neither as names nor as paths.
func wrongs() []string {
	return []string{
		".", "..", "/", "//", "/a", "a/", "a//b", "./a", "a/.", "a/..", "a/../b", "../a", "a/b/", "//a", "a/./b",
		"\\", "a\\b", "\\a", "a\\", "C:\\a", "a/\\/b", "a\\/b",
		"\x00", "a\x00", "\x00a", "a\tb", "a\nb", "\x1f", "a/\x1f/b", "\x7f", "a\x7f", "\x80", "a\xff", "\xff/a", "\xc0\xaf", "a\xe2/b",
		"é", "a/é", "日本", "a／b", "\uFFFD", "a\u00a0b", name33, name33 + "/a", "a/" + name33, path121, path9, path121 + "/..", strings.Repeat("a/", 60) + "a",
	}
}

// rights are paths that may be.
func rights() []string {
	return []string{
		"", "a", "ab", "a/b", "a/b/c", "a b", " ", " / ", "~", "!/~", "...", "..a", "a..", ".a", "a.", ". ", " .", ".../...", "a/...", "..a/.b",
		"a:b", "*?\"<>|", "d.txt", name32, name32 + "/" + name32, path120, path8, full8, "A/a/0", "-/--",
	}
}

// The chapter's example.
func TestExample(t *testing.T) {
	clean(t, "/a//b/./../c/", "a/c", api.OK)
	clean(t, "../..", "", api.OK)
	clean(t, "a\\b", "", api.ErrName)
	clean(t, "a\\b/../c", "c", api.OK)
	parent(t, "a/b", "a", "b", api.OK)
	under(t, "ab", "a", false)
	compared(t, "a b", "a/b", 1)
	compared(t, "a", "a b", -1)
}

// The paths that the tests take are as long as they say.
func TestLimits(t *testing.T) {
	if len(name32) != 32 || len(path120) != 120 || len(full8) != 120 || len(cutApart(full8)) != 8 || len(path121) != 121 || len(cutApart(path9)) != 9 {
		t.Fatal("the tests' own paths have other lengths")
	}
}

// P13.1: a name has 1 to 32 bytes.
func TestNameLength(t *testing.T) {
	named(t, "", api.ErrName)
	for size := 1; size <= 32; size++ {
		named(t, strings.Repeat("x", size), api.OK)
	}
	for _, size := range []int{33, 34, 64, 120, 121, 256, 257, 288, 1024, 1 << 16, 1<<16 + 1, 1 << 20} {
		named(t, strings.Repeat("x", size), api.ErrName)
	}
}

// P13.1: each byte of a name, wherever it stands, is from the blank to ~ , and neither / nor \ .
func TestNameBytes(t *testing.T) {
	for c := range 256 {
		ok := c >= 32 && c <= 126 && c != 47 && c != 92
		b := string([]byte{byte(c)})
		for _, s := range []string{"a" + b, b + "a", "a" + b + "a", strings.Repeat("y", 31) + b, b + strings.Repeat("y", 31)} {
			named(t, s, refused(ok))
		}
		named(t, b, refused(ok && c != '.'))
	}
}

// P13.1: . and .. are no names; whatever else has dots is.
func TestNameDots(t *testing.T) {
	for _, s := range []string{".", "..", "./", "/.", "../", "a/..", ".\x00"} {
		named(t, s, api.ErrName)
	}
	for _, s := range []string{"...", "....", ".a", "..a", "a.", "a..", "a.b", ". .", ". ", " .", " ..", ".. ", strings.Repeat(".", 32)} {
		named(t, s, api.OK)
	}
}

// P13.1: what is no text in bytes from the blank to ~ is no name.
func TestNameRunes(t *testing.T) {
	for _, s := range []string{"é", "aé", "éa", "ß", "日", "／", "＼", "\u0120", "\u012f", "\u2028", "\uFFFD", "\U0001F600", "\x80", "\xff\xfe", "a\xe2\x28\xa1", "\xc0\xae", "\xc0\x80", "\xed\xa0\x80", "\xf4\x90\x80\x80"} {
		named(t, s, api.ErrName)
		split(t, s, nil, api.ErrName)
		clean(t, s, "", api.ErrName)
	}
}

// P13.1: Split tells the names of a path that may be, of the root none.
func TestSplit(t *testing.T) {
	split(t, "", nil, api.OK)
	split(t, "a", []string{"a"}, api.OK)
	split(t, "a/b", []string{"a", "b"}, api.OK)
	split(t, " / ", []string{" ", " "}, api.OK)
	split(t, ".../..a", []string{"...", "..a"}, api.OK)
	split(t, path8, names8, api.OK)
	split(t, path120, []string{name32, name32, name32, name32[:21]}, api.OK)
	split(t, name32+"/"+name32, []string{name32, name32}, api.OK)
	for _, p := range rights() {
		split(t, p, cutApart(p), api.OK)
	}
}

// P13.1: Split of what may not be.
func TestSplitRefused(t *testing.T) {
	for _, p := range wrongs() {
		split(t, p, nil, api.ErrName)
	}
}

// P13.1: Join tells the path of names, of none the root.
func TestJoin(t *testing.T) {
	join(t, nil, "", api.OK)
	join(t, []string{}, "", api.OK)
	join(t, []string{"a"}, "a", api.OK)
	join(t, []string{"a", "b"}, "a/b", api.OK)
	join(t, []string{" ", " "}, " / ", api.OK)
	join(t, []string{"...", "..a"}, ".../..a", api.OK)
	join(t, names8, path8, api.OK)
	join(t, []string{name32, name32, name32, name32[:21]}, path120, api.OK)
	join(t, []string{name32}, name32, api.OK)
}

// P13.1: Join of what is no name, of too many names, and of too many bytes; two names in one are none, though their path may be.
func TestJoinRefused(t *testing.T) {
	for _, s := range append(wrongs(), "", "a/b") {
		for _, l := range [][]string{{s}, {"a", s}, {s, "a"}, {"a", s, "b"}} {
			join(t, l, "", api.ErrName)
		}
	}
	join(t, []string{"", ""}, "", api.ErrName)
	join(t, append(slices.Clone(names8), "i"), "", api.ErrName)
	join(t, append(slices.Clone(names8), ""), "", api.ErrName)
	join(t, []string{name32, name32, name32, name32[:22]}, "", api.ErrName)
	join(t, []string{name32, name32, name32, name32[:20], "a"}, "", api.ErrName)
	join(t, []string{name32, name32, name32, name32}, "", api.ErrName)
	join(t, slices.Repeat([]string{name32}, 8), "", api.ErrName)
	join(t, slices.Repeat([]string{"a"}, 264), "", api.ErrName)
	join(t, make([]string, 9), "", api.ErrName)
	join(t, make([]string, 1<<20), "", api.ErrName)
}

// P13.2: what counts for nothing, what takes a name away, and what is a name.
func TestClean(t *testing.T) {
	for s, p := range map[string]string{
		"": "", "/": "", "//": "", ".": "", "./": "", "/.": "", "././.": "", "..": "", "/..": "", "../": "", "../../..": "", "a/..": "", "a/b/../..": "", "a/../..": "",
		"a": "a", "/a": "a", "a/": "a", "//a//": "a", "./a": "a", "a/.": "a", "../a": "a", "/../../a": "a", "a/b/..": "a", "b/../a": "a", "a/../a": "a", "a/../../a": "a",
		"a/b": "a/b", "a//b": "a/b", "a/./b": "a/b", "/a/b/": "a/b", "a/c/../b": "a/b", "a/c/d/../../b": "a/b", "../a/../a/b": "a/b", "c/d/../../../a/b": "a/b", "a/b/../../a/b": "a/b",
		"...": "...", "a/...": "a/...", "..a": "..a", "a/..b": "a/..b", "a/b..": "a/b..", " / . / .. ": " / . / .. ", ". /a": ". /a", ".../..": "",
		path8: path8, "/" + path8 + "/": path8, path120: path120, "./" + path120 + "//": path120, full8: full8,
	} {
		clean(t, s, p, api.OK)
	}
}

// P13.2: a name that is taken away again may be any; so may the path be that was there by then.
func TestCleanTaken(t *testing.T) {
	for _, s := range []string{"\\", "a\\b", "\x00", "\xff", "é", "\x7f", name33, strings.Repeat("x", 1000), "a\tb", "\xc0\xaf"} {
		clean(t, s+"/..", "", api.OK)
		clean(t, s+"/../c", "c", api.OK)
		clean(t, "a/"+s+"/../c", "a/c", api.OK)
		clean(t, "a/"+s+"/x/../../c", "a/c", api.OK)
		clean(t, s+"/x/../..", "", api.OK)
		clean(t, s, "", api.ErrName)
		clean(t, s+"/c", "", api.ErrName)
		clean(t, "c/"+s, "", api.ErrName)
		clean(t, "../"+s, "", api.ErrName)
		clean(t, s+"/x/..", "", api.ErrName)
		clean(t, "x/../"+s, "", api.ErrName)
	}
	clean(t, path9+"/..", path8, api.OK)
	clean(t, path9+"/../i", "", api.ErrName)
	clean(t, path121+"/../a", strings.Join([]string{name32, name32, name32, "a"}, "/"), api.OK)
	clean(t, strings.Repeat("a/", 200)+strings.Repeat("../", 199)+"b", "a/b", api.OK)
	clean(t, strings.Repeat("a/", 200)+strings.Repeat("../", 192)+"b", "", api.ErrName)
}

// P13.2: the path that is there at the end may not be.
func TestCleanRefused(t *testing.T) {
	for _, s := range []string{name33, "a/" + name33, path9, "/" + path9 + "/", path121, "./" + path121, "a\\", "\x1f", "a/b/\x7f/c", "a\x80", "/\\/"} {
		clean(t, s, "", api.ErrName)
	}
}

// P13.2: a text has at most 1024 bytes, whatever it has.
func TestCleanTooLarge(t *testing.T) {
	clean(t, strings.Repeat("/", 1023)+"a", "a", api.OK)
	clean(t, strings.Repeat("/", 1024)+"a", "", api.ErrTooLarge)
	clean(t, strings.Repeat("/", 1024), "", api.OK)
	clean(t, strings.Repeat("/", 1025), "", api.ErrTooLarge)
	clean(t, strings.Repeat("a/../", 204)+"abcd", "abcd", api.OK)
	clean(t, strings.Repeat("a/../", 204)+"abcde", "", api.ErrTooLarge)
	clean(t, strings.Repeat("x", 1024), "", api.ErrName)
	clean(t, strings.Repeat("x", 1025), "", api.ErrTooLarge)
	clean(t, strings.Repeat("\\", 1025), "", api.ErrTooLarge)
	clean(t, strings.Repeat("é", 512), "", api.ErrName)
	clean(t, strings.Repeat("é", 513), "", api.ErrTooLarge)
	clean(t, strings.Repeat("/", 1<<16), "", api.ErrTooLarge)
	clean(t, strings.Repeat("../", 1<<20), "", api.ErrTooLarge)
}

// P13.3: all names but the last one, and that.
func TestParent(t *testing.T) {
	parent(t, "a", "", "a", api.OK)
	parent(t, "a/b", "a", "b", api.OK)
	parent(t, "a/b/c", "a/b", "c", api.OK)
	parent(t, " / ", " ", " ", api.OK)
	parent(t, ".../...", "...", "...", api.OK)
	parent(t, path8, "a/b/c/d/e/f/g", "h", api.OK)
	parent(t, path120, strings.Join([]string{name32, name32, name32}, "/"), name32[:21], api.OK)
	parent(t, full8, full8[:104], "fifteen bytes a", api.OK)
	parent(t, name32, "", name32, api.OK)
}

// P13.3: the root has no parent; what may not be has none either.
func TestParentRefused(t *testing.T) {
	parent(t, "", "", "", api.ErrNone)
	for _, p := range wrongs() {
		parent(t, p, "", "", api.ErrName)
	}
}

// P13.4: whether all names of one are the first ones of the other.
func TestUnder(t *testing.T) {
	for _, p := range rights() {
		under(t, p, p, true)
		under(t, p, "", true)
		under(t, "", p, p == "")
		dir, name, err := Parent(p)
		if err != api.OK {
			continue
		}
		under(t, p, dir, true)
		under(t, dir, p, false)
		under(t, p, dir+name, dir == "")
	}
	for _, c := range []struct {
		p, dir string
		want   bool
	}{
		{"a/b", "a", true}, {"a/b/c", "a", true}, {"a/b/c", "a/b", true}, {"a b/c", "a b", true}, {path8, "a/b/c/d", true}, {path120, name32 + "/" + name32, true},
		{"ab", "a", false}, {"ab/c", "a", false}, {"a", "ab", false}, {"a", "a/b", false}, {"a/bc", "a/b", false}, {"a/b", "a/bc", false}, {"b/a", "a", false}, {"a b", "a", false},
		{"a/b/c", "b", false}, {"a/b/c", "a/c", false}, {"a/b/c", "b/c", false}, {"a/b/c", "x/b", false}, {"A/b", "a", false}, {"a.b", "a", false}, {"a", "b", false},
	} {
		under(t, c.p, c.dir, c.want)
	}
}

// P13.4: what may not be is under nothing, and nothing under it.
func TestUnderRefused(t *testing.T) {
	for _, p := range wrongs() {
		under(t, p, "", false)
		under(t, p, p, false)
		under(t, "a/"+p, "a", false)
		under(t, p+"/a", p, false)
		under(t, "", p, false)
		under(t, "a", p, false)
		under(t, "a/b", p, false)
	}
	under(t, path9, path8, false)
	under(t, path121, name32, false)
	under(t, "a/b/", "a/b", false)
	under(t, "a/b", "a/", false)
	under(t, "/a", "/", false)
}

// P13.5: names by name, by their bytes; the shorter one is below, and so is the path that others go on from.
func TestCompare(t *testing.T) {
	rising := []string{
		"", " ", " /x", " !", "!", "-", "-/a", "-a", ".a", "0", "0/0", "00", "A", "B", "a", "a/ ", "a/a", "a/a/a", "a/a/b", "a/ab", "a/b", "a/b/c", "a/b c", "a/b.c", "a/~",
		"a ", "a !", "a b", "a b/c", "a!", "a-", "a-/b", "a.", "a.b", "a0", "aa", "aa/a", "ab", "b", "b/a", "~", "~/~", "~~",
	}
	for i, a := range rising {
		for k, b := range rising {
			switch {
			case i < k:
				compared(t, a, b, -1)
			case i > k:
				compared(t, a, b, 1)
			default:
				compared(t, a, strings.Clone(b), 0)
			}
		}
	}
	compared(t, path120, path121, -1)
	compared(t, path9, path8, 1)
}

// P13.5: what may not be is compared by its pieces, as they are.
func TestCompareRefused(t *testing.T) {
	rising := []string{
		"", "/", "//", "///", "//a", "/.", "/a", "/a/", "/a/b", "/b", "\x00", "\x00/", "\x00\x00", ".", "./", "./..", "./a", "..", "../", "../a", ".a", "a", "a/", "a//", "a//b", "a/\x00", "a/.", "a/b", "a/b/", "a\x00", "a\x00/b", "a\t", "a ", "a\\b", "a\\b/c",
		"aa", "\x7f", "\x80", "\x80/a", "\x80a", "é", "é/é", "日", "\xff", "\xff/", "\xff\x00", "\xff\xff",
	}
	for i, a := range rising {
		for k, b := range rising {
			switch {
			case i < k:
				compared(t, a, b, -1)
			case i > k:
				compared(t, a, b, 1)
			default:
				compared(t, a, b, 0)
			}
		}
	}
}

// P13.6: Join of Split is the path; Split of Join are the names.
func TestBack(t *testing.T) {
	for _, p := range slices.Concat(rights(), texts(5, "a", "b/", ".", "/")) {
		names, err := Split(p)
		if err != api.OK {
			continue
		}
		join(t, names, p, api.OK)
	}
	for _, l := range [][]string{nil, {"a"}, {"a", "b"}, {"...", " ", "~"}, names8, {name32, name32, name32, name32[:21]}} {
		p, err := Join(l)
		if err != api.OK {
			t.Fatalf("Join(%q): error %d", l, err)
		}
		split(t, p, l, api.OK)
	}
}

// P13.7: what is clean stays so; any path that may be is clean.
func TestAgain(t *testing.T) {
	for _, p := range rights() {
		clean(t, p, p, api.OK)
	}
	for _, s := range slices.Concat(texts(6, "a", "b", "/", "."), texts(5, "a/", "/", "../", "./", "\\"), long()) {
		if p, err := Clean(s); err == api.OK {
			clean(t, p, p, api.OK)
			if _, err := Split(p); err != api.OK {
				t.Errorf("Clean(%q) = %q, which is no path that may be", s, p)
			}
		}
	}
}

// P13.8: of any three texts, one is below, is, or is above the other, and that goes on from one to the next.
func TestOrder(t *testing.T) {
	all := append(texts(3, "a", "b", "/", " "), "a/b/c", "a b/c", "\xff", "\x00", path8, path9)
	for _, a := range all {
		for _, b := range all {
			ab := Compare(a, b)
			if ab != -Compare(b, a) || (ab == 0) != (a == b) {
				t.Fatalf("Compare(%q, %q) = %d, and the other way %d", a, b, ab, Compare(b, a))
			}
			for _, c := range all {
				if ab <= 0 && Compare(b, c) <= 0 && Compare(a, c) > 0 {
					t.Fatalf("%q, %q, %q rise, but Compare(%q, %q) = 1", a, b, c, a, c)
				}
			}
		}
	}
}

// P13.8: what stands under a directory stands behind it, one by one.
func TestOrderUnder(t *testing.T) {
	all := append(texts(3, "a", "b/", "/b", " ", "-", "~"), rights()...)
	all = slices.DeleteFunc(all, func(p string) bool { return !isPath(p) })
	slices.SortFunc(all, Compare)
	all = slices.Compact(all)
	for i, dir := range all {
		inside := true
		for k, p := range all {
			if k < i && Under(p, dir) {
				t.Fatalf("%q is under %q, but stands ahead", p, dir)
			}
			if k >= i && Under(p, dir) && !inside {
				t.Fatalf("%q is under %q, but %q stands between", p, dir, all[k-1])
			}
			if k >= i {
				inside = Under(p, dir)
			}
		}
	}
}

// Every call ends at texts far longer than may be, and tells them apart at their end.
func TestFar(t *testing.T) {
	for _, far := range []string{strings.Repeat("/", 1<<20), strings.Repeat("a/", 1<<19), strings.Repeat("a", 1<<20), strings.Repeat("\xff", 1<<20)} {
		named(t, far, api.ErrName)
		split(t, far, nil, api.ErrName)
		clean(t, far, "", api.ErrTooLarge)
		parent(t, far, "", "", api.ErrName)
		under(t, far, "", false)
		under(t, "a", far, false)
		compared(t, far, far+"b", -1)
		compared(t, far+"c", far+"b", 1)
		compared(t, far, strings.Clone(far), 0)
	}
	join(t, slices.Repeat([]string{"a"}, 1<<20), "", api.ErrName)
}

// within tells whether a text lies in the memory of another one.
func within(s, whole string) bool {
	at, from := uintptr(unsafe.Pointer(unsafe.StringData(s))), uintptr(unsafe.Pointer(unsafe.StringData(whole)))
	return len(s) > 0 && at >= from && at < from+uintptr(len(whole))
}

// What is answered is new memory; what is handed in is as it was.
func TestNewMemory(t *testing.T) {
	for _, p := range []string{"name", "name/other", path8, path120} {
		p = strings.Clone(p)
		names, _ := Split(p)
		for i, name := range names {
			if within(name, p) || i > 0 && within(name, names[i-1]) {
				t.Errorf("Split(%q) shares the name %q", p, name)
			}
		}
		whole, _ := Clean(p)
		dir, last, _ := Parent(p)
		if within(whole, p) || within(dir, p) || within(last, p) {
			t.Errorf("Clean or Parent of %q share it", p)
		}
		names = append(names, "behind")
		l := names[:len(names)-1]
		if joined, _ := Join(l); within(joined, l[0]) || names[len(l)] != "behind" || strings.Join(l, "/") != p {
			t.Errorf("Join(%q) shares its names, or changed them", l)
		}
	}
}
