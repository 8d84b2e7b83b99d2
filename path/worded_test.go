package path

import (
	"slices"
	"strings"
	"testing"

	"valise/api"
)

// cutApart tells the pieces of a text between any / , byte by byte, without help of the package. The root has none.
func cutApart(s string) []string {
	if s == "" {
		return nil
	}
	l := []string{""}
	for _, c := range []byte(s) {
		if c == '/' {
			l = append(l, "")
		} else {
			l[len(l)-1] += string([]byte{c})
		}
	}
	return l
}

// isName tells whether a name may be, as the chapter words it.
func isName(s string) bool {
	for _, c := range []byte(s) {
		if c < 32 || c > 126 || c == '/' || c == '\\' {
			return false
		}
	}
	return len(s) >= 1 && len(s) <= 32 && s != "." && s != ".."
}

// isPath tells whether a path may be, as the chapter words it.
func isPath(p string) bool {
	names := cutApart(p)
	return len(p) <= 120 && len(names) <= 8 && !slices.ContainsFunc(names, func(s string) bool { return !isName(s) })
}

// cleaned tells what a text means, from its end on: each .. takes away the nearest name ahead that is not taken away yet.
func cleaned(s string) string {
	p, away := "", 0
	for _, piece := range slices.Backward(cutApart(s)) {
		switch {
		case piece == "" || piece == ".":
		case piece == "..":
			away++
		case away > 0:
			away--
		case p == "":
			p = piece
		default:
			p = piece + "/" + p
		}
	}
	return p
}

// key tells numbers that are compared as a path is: what ends a name is below all that goes on with it, and the end of all below that.
func key(p string) []int {
	var l []int
	for _, c := range []byte(p) {
		if c == '/' {
			l = append(l, 0)
		} else {
			l = append(l, int(c)+1)
		}
	}
	return l
}

// texts tells all texts of at most n of these parts.
func texts(n int, parts ...string) []string {
	all := []string{""}
	last := all
	for range n {
		var longer []string
		for _, s := range last {
			for _, part := range parts {
				longer = append(longer, s+part)
			}
		}
		all, last = append(all, longer...), longer
	}
	return all
}

// long are texts about the limits, of paths and of what is cleaned.
func long() []string {
	var l []string
	for size := range 130 {
		l = append(l, strings.Repeat("x", size), sized(size), strings.Repeat("y/", size), strings.Repeat("../", size)+"z", strings.Repeat("z/", size)+strings.Repeat("../", size/2))
	}
	for size := 1015; size < 1030; size++ {
		l = append(l, strings.Repeat("/", size-1)+"q", strings.Repeat("q", size-3)+"/..", strings.Repeat("a/../", 203)+strings.Repeat("/", size-1015))
	}
	return l
}

// sized tells a path of so many bytes, of names of 16 bytes, the last one of which may be shorter (and at last none).
func sized(n int) string {
	var b strings.Builder
	for i := range n {
		if i%17 == 16 {
			b.WriteByte('/')
		} else {
			b.WriteByte(byte('a' + i%26))
		}
	}
	return b.String()
}

// asWorded holds all calls of one text against the chapter's words.
func asWorded(t *testing.T, s string) {
	t.Helper()
	named(t, s, refused(isName(s)))
	names := cutApart(s)
	if isPath(s) {
		split(t, s, names, api.OK)
	} else {
		split(t, s, nil, api.ErrName)
	}
	switch p := cleaned(s); {
	case len(s) > 1024:
		clean(t, s, "", api.ErrTooLarge)
	case !isPath(p):
		clean(t, s, "", api.ErrName)
	default:
		clean(t, s, p, api.OK)
	}
	switch last := len(names) - 1; {
	case !isPath(s):
		parent(t, s, "", "", api.ErrName)
	case s == "":
		parent(t, s, "", "", api.ErrNone)
	default:
		parent(t, s, strings.Join(names[:last], "/"), names[last], api.OK)
	}
}

// refused is the error of what may not be.
func refused(ok bool) api.Errno {
	if ok {
		return api.OK
	}
	return api.ErrName
}

// P13.1, P13.2, P13.3: of all short texts of some bytes, of all of some parts, and about the limits.
func TestAsWorded(t *testing.T) {
	for _, s := range slices.Concat(texts(6, "a", "/", ".", "\\", " "), texts(6, "a", "bc/", "../", "./", "//", ".."), long()) {
		asWorded(t, s)
	}
}

// Pieces are told one by one, until whoever asks has enough.
func TestPieces(t *testing.T) {
	for s, want := range map[string][]string{"": nil, "/": {"", ""}, "a": {"a"}, "a/": {"a", ""}, "/a": {"", "a"}, "a//b": {"a", "", "b"}, "é/\\/\xff": {"é", "\\", "\xff"}} {
		for most := range len(want) + 1 {
			var got []string
			for piece := range pieces(s) {
				if len(got) == most {
					break
				}
				got = append(got, piece)
			}
			if !slices.Equal(got, want[:most]) {
				t.Errorf("the first %d pieces of %q are %q, want %q", most, s, got, want[:most])
			}
		}
	}
}

// P13.1: Join of all lists of a few names, right and wrong.
func TestJoinAsWorded(t *testing.T) {
	parts := []string{"", "a", "~ ", ".", "..", "...", "/", "a/b", "\\", "\x7f", strings.Repeat("n", 31), strings.Repeat("n", 32), strings.Repeat("n", 33)}
	lists := [][]string{nil}
	for at := 0; at < len(lists); at++ {
		l := lists[at]
		p, good := strings.Join(l, "/"), !slices.ContainsFunc(l, func(s string) bool { return !isName(s) })
		if good && isPath(p) {
			join(t, l, p, api.OK)
		} else {
			join(t, l, "", api.ErrName)
		}
		if len(l) == 4 {
			continue
		}
		for _, part := range parts {
			lists = append(lists, append(slices.Clone(l), part))
		}
	}
}

// P13.4: of all two short texts.
func TestUnderAsWorded(t *testing.T) {
	all := append(texts(4, "a", "b", "/", "."), "a/b/a/b", "aa/b", "a/bb", "a/b/c", sized(120), sized(121), sized(100))
	for _, p := range all {
		for _, dir := range all {
			names, first := cutApart(p), cutApart(dir)
			want := isPath(p) && isPath(dir) && len(first) <= len(names)
			for i, name := range first {
				want = want && names[i] == name
			}
			under(t, p, dir, want)
		}
	}
}

// P13.5: of all two short texts, those that may be, and those that may not.
func TestCompareAsWorded(t *testing.T) {
	all := slices.Concat(texts(4, "a", "b", "/", " ", "\x00"), texts(3, "\xff", "/", "\x80", "~", "."))
	for _, a := range all {
		for _, b := range all {
			compared(t, a, b, slices.Compare(key(a), key(b)))
		}
	}
}
