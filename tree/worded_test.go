package tree

import (
	"maps"
	"slices"
	"strings"
	"testing"

	"valise/api"
)

// worded is a tree as the chapter words it, without help of the package or of paths: of each path but the root's what stands there, / for a directory, = and its bytes for a file.
type worded map[string]string

// isPath tells whether a path may be.
func isPath(p string) bool {
	names := namesOf(p)
	for _, name := range names {
		if len(name) < 1 || len(name) > 32 || name == "." || name == ".." {
			return false
		}
	}
	for _, c := range []byte(p) {
		if c < 32 || c > 126 || c == '\\' {
			return false
		}
	}
	return len(p) <= 120 && len(names) <= 8
}

// namesOf tells a path's names.
func namesOf(p string) []string {
	if p == "" {
		return nil
	}
	return strings.Split(p, "/")
}

// first tells the path of a path's first n names.
func first(p string, n int) string { return strings.Join(namesOf(p)[:n], "/") }

// dirOf tells the directory of a path that is not the root.
func dirOf(p string) string { return first(p, len(namesOf(p))-1) }

// isUnder tells whether a path stands under a directory, and is not it.
func isUnder(p, dir string) bool { return strings.HasPrefix(p, dir+"/") }

// isFile tells whether a file stands at a path.
func (w worded) isFile(p string) bool { return strings.HasPrefix(w[p], "=") }

// stands tells whether anything stands at a path.
func (w worded) stands(p string) bool { return p == "" || w[p] != "" }

// looked is the error of looking for a path.
func (w worded) looked(p string) api.Errno {
	if !isPath(p) {
		return api.ErrName
	}
	for n := range namesOf(p) {
		switch {
		case w.isFile(first(p, n)):
			return api.ErrFile
		case !w.stands(first(p, n+1)):
			return api.ErrNone
		}
	}
	return api.OK
}

// lookedDir is the error of looking for the directory of a path, where the root has one of its own, and of its being a file.
func (w worded) lookedDir(p string, root api.Errno) api.Errno {
	switch {
	case !isPath(p):
		return api.ErrName
	case p == "":
		return root
	case w.looked(dirOf(p)) != api.OK:
		return w.looked(dirOf(p))
	case w.isFile(dirOf(p)):
		return api.ErrFile
	}
	return api.OK
}

// mkdir is Mkdir.
func (w worded) mkdir(p string) api.Errno {
	err := w.lookedDir(p, api.ErrExists)
	switch {
	case err != api.OK:
		return err
	case w.stands(p):
		return api.ErrExists
	case len(w) == 128:
		return api.ErrNoSpace
	}
	w[p] = "/"
	return api.OK
}

// put is Put.
func (w worded) put(p, b string) api.Errno {
	err := w.lookedDir(p, api.ErrDir)
	switch {
	case err != api.OK:
		return err
	case w.stands(p) && !w.isFile(p):
		return api.ErrDir
	case len(b) > 65536:
		return api.ErrTooLarge
	case !w.stands(p) && len(w) == 128:
		return api.ErrNoSpace
	}
	w[p] = "=" + b
	return api.OK
}

// remove is Remove.
func (w worded) remove(p string) api.Errno {
	if err := w.looked(p); err != api.OK {
		return err
	}
	if p == "" || len(w.below(p)) > 0 {
		return api.ErrBusy
	}
	delete(w, p)
	return api.OK
}

// below tells the paths of all that stands under a path, in no order.
func (w worded) below(dir string) []string {
	var l []string
	for p := range w {
		if isUnder(p, dir) {
			l = append(l, p)
		}
	}
	return l
}

// rename is Rename.
func (w worded) rename(from, to string) api.Errno {
	if err := w.looked(from); err != api.OK {
		return err
	}
	if from == "" {
		return api.ErrBusy
	}
	if err := w.lookedDir(to, api.ErrExists); err != api.OK || from == to {
		return err
	}
	if isUnder(to, from) {
		return api.ErrBusy
	}
	if w.stands(to) {
		return api.ErrExists
	}
	all := w.below(from)
	for _, p := range all {
		if !isPath(to + p[len(from):]) {
			return api.ErrName
		}
	}
	for _, p := range append(all, from) {
		w[to+p[len(from):]] = w[p]
		delete(w, p)
	}
	return api.OK
}

// wordedOf is Of.
func wordedOf(l []api.File) (worded, api.Errno) {
	for _, f := range l {
		switch {
		case f.Name == "" || !isPath(f.Name):
			return nil, api.ErrName
		case f.Dir && len(f.Data) > 0:
			return nil, api.ErrDir
		case len(f.Data) > 65536:
			return nil, api.ErrTooLarge
		}
	}
	err := api.OK
	w := worded{}
	for k, f := range l {
		for _, other := range l[:k] {
			if f.Name == other.Name {
				return nil, api.ErrExists
			}
			if !f.Dir && isUnder(other.Name, f.Name) || !other.Dir && isUnder(f.Name, other.Name) {
				err = api.ErrFile
			}
		}
		for n := range len(namesOf(f.Name)) - 1 {
			w[first(f.Name, n+1)] = "/"
		}
		if w[f.Name] = "=" + string(f.Data); f.Dir {
			w[f.Name] = "/"
		}
	}
	switch {
	case err != api.OK:
		return nil, err
	case len(w) > 128:
		return nil, api.ErrNoSpace
	}
	return w, api.OK
}

// files is Files, as short texts: sorted with a byte between names that is below all that names have.
func (w worded) files() []string {
	var keys, texts []string
	for p := range w {
		keys = append(keys, strings.ReplaceAll(p, "/", "\x00"))
	}
	slices.Sort(keys)
	for _, key := range keys {
		p := strings.ReplaceAll(key, "\x00", "/")
		texts = append(texts, p+strings.TrimSuffix(w[p], "="))
	}
	return texts
}

// names is List of a directory.
func (w worded) names(dir string) []string {
	var l []string
	for p := range w {
		if dirOf(p) == dir {
			l = append(l, p[strings.LastIndex(p, "/")+1:])
		}
	}
	slices.Sort(l)
	return l
}

// alike fails if a tree does not tell what the worded one does, of all and of one path.
func alike(t *testing.T, tr *Tree, w worded, p string) {
	t.Helper()
	has(t, tr, w.files()...)
	text, err := "", w.looked(p)
	if err == api.OK {
		text = p + strings.TrimSuffix(w[p], "=")
	}
	if p == "" {
		text = "/"
	}
	finds(t, tr, p, text, err)
	switch {
	case err != api.OK:
		lists(t, tr, p, nil, err)
	case w.isFile(p):
		lists(t, tr, p, nil, api.ErrFile)
	default:
		lists(t, tr, p, w.names(p), api.OK)
	}
}

// act is a call that may change a tree.
type act struct {
	kind, p, to string
}

// does does it with both trees, and fails if the errors are not one.
func (a act) does(t *testing.T, tr *Tree, w worded) api.Errno {
	t.Helper()
	var got, want api.Errno
	switch a.kind {
	case "mkdir":
		got, want = tr.Mkdir(a.p), w.mkdir(a.p)
	case "put":
		got, want = tr.Put(a.p, []byte(a.to)), w.put(a.p, a.to)
	case "remove":
		got, want = tr.Remove(a.p), w.remove(a.p)
	case "rename":
		got, want = tr.Rename(a.p, a.to), w.rename(a.p, a.to)
	}
	if got != want {
		t.Fatalf("%.100q in %.300q: error %d, want error %d", a, w.files(), got, want)
	}
	return got
}

// acts tells all that may be asked of some paths.
func acts(paths ...string) []act {
	var l []act
	for _, p := range paths {
		l = append(l, act{"mkdir", p, ""}, act{"put", p, "x"}, act{"put", p, ""}, act{"remove", p, ""})
		for _, to := range paths {
			l = append(l, act{"rename", p, to})
		}
	}
	return l
}

// deep tells whether anything stands deeper than in a directory of the root.
func deep(w worded) bool {
	for p := range w {
		if len(namesOf(p)) > 2 {
			return true
		}
	}
	return false
}

// P16.2 to P16.7: of a few paths, in each tree that they make, but deep ones, each call.
func TestAllTrees(t *testing.T) {
	type pair struct {
		tr *Tree
		w  worded
	}
	paths := []string{"", "a", "b", "a/a", "a/b", "b/a", "b/b", "a/b/a", "b/a/c", "a/b/a/b", "/", "b/"}
	trees := []pair{{New(), worded{}}}
	seen := map[string]int{"": 0}
	for k := 0; k < len(trees); k++ {
		for _, p := range paths {
			alike(t, trees[k].tr, trees[k].w, p)
		}
		for _, a := range acts(paths...) {
			tr, w := trees[k].tr.Copy(), maps.Clone(trees[k].w)
			a.does(t, tr, w)
			has(t, tr, w.files()...)
			key := strings.Join(w.files(), ",")
			if _, known := seen[key]; !known && !deep(w) {
				seen[key] = len(trees)
				trees = append(trees, pair{tr, w})
			}
		}
		has(t, trees[k].tr, trees[k].w.files()...)
	}
	// Two names, each of nothing, of two files, or of a directory with two names, each of nothing, of two files, or of a directory.
	if len(trees) != (3+4*4)*(3+4*4) {
		t.Fatalf("%d trees", len(trees))
	}
}

// anyOf tells one of some texts.
func anyOf(seed *uint32, texts []string) string {
	*seed = *seed*1664525 + 1013904223
	return texts[int(*seed>>8)%len(texts)]
}

// anyPath tells a path, often one that is there, or one that stands beside it or under it, at times a long one, or one that is none.
func anyPath(seed *uint32, w worded) string {
	names := []string{"a", "b", "c", "a b", "~", "...", name32, "longer name", "x", "y"}
	there := append(slices.Sorted(maps.Keys(w)), "")
	p := anyOf(seed, there)
	switch anyOf(seed, []string{"there", "under", "under", "beside", "far", "name", "wrong"}) {
	case "under":
		p += "/" + anyOf(seed, names)
	case "beside":
		p = first(p, max(len(namesOf(p))-1, 0)) + "/" + anyOf(seed, names)
	case "far":
		p += "/" + anyOf(seed, names) + "/" + anyOf(seed, names)
	case "name":
		p = anyOf(seed, names)
	case "wrong":
		return anyOf(seed, []string{p + "/", "/" + p, p + "/..", "./" + p, p + "\\", p + "é", path9, path121, p + "//a"})
	}
	return strings.TrimPrefix(p, "/")
}

// anyAct tells a call: more that make something than that take it away.
func anyAct(seed *uint32, w worded) act {
	switch kind := anyOf(seed, []string{"mkdir", "mkdir", "mkdir", "put", "put", "put", "remove", "rename", "rename"}); kind {
	case "put":
		return act{kind, anyPath(seed, w), anyOf(seed, []string{"", "x", "y", "more bytes", "x"})}
	case "rename":
		return act{kind, anyPath(seed, w), anyPath(seed, w)}
	default:
		return act{kind, anyPath(seed, w), ""}
	}
}

// grown tells both trees behind so many calls.
func grown(t *testing.T, seed *uint32, steps int) (*Tree, worded) {
	t.Helper()
	tr, w := New(), worded{}
	for range steps {
		anyAct(seed, w).does(t, tr, w)
	}
	has(t, tr, w.files()...)
	return tr, w
}

// nearly tells both trees of nearly as many files as there is room for.
func nearly(t *testing.T) (*Tree, worded) {
	t.Helper()
	l := listed(many("d/e/", 120)...)
	tr, err := Of(l)
	is(t, err, api.OK)
	w, err := wordedOf(l)
	is(t, err, api.OK)
	return tr, w
}

// P16.2 to P16.5: whatever is done, a tree tells what the chapter says, and so does its copy, which goes on in its stead; what was told of is left as it was.
func TestWorded(t *testing.T) {
	came := map[api.Errno]int{}
	for run := range uint32(60) {
		seed := run * 7919
		tr, w := New(), worded{}
		if run%6 == 0 {
			tr, w = nearly(t)
		}
		for step := range 300 {
			left, before := tr.Copy(), maps.Clone(w)
			came[anyAct(&seed, w).does(t, tr, w)]++
			alike(t, tr, w, anyPath(&seed, w))
			if step%16 == 0 {
				alike(t, left, before, anyPath(&seed, w))
				tr = tr.Copy()
			}
		}
	}
	for _, err := range []api.Errno{api.OK, api.ErrName, api.ErrNone, api.ErrExists, api.ErrDir, api.ErrFile, api.ErrBusy, api.ErrNoSpace} {
		if came[err] < 50 {
			t.Errorf("error %d came %d times", err, came[err])
		}
	}
}

// P16.1: Of lists of a few files, right and wrong, in whatever order.
func TestOfWorded(t *testing.T) {
	came := map[api.Errno]int{}
	seed := uint32(5)
	for run := range 20000 {
		var l []api.File
		w := worded{"a": "/", "a/b": "/", "c": "/", "c/a": "/"}
		for range run % 6 {
			p := anyPath(&seed, w)
			if p == "" && run%7 > 0 {
				p = "d"
			}
			f := api.File{Name: p, Dir: anyOf(&seed, []string{"d", "f"}) == "d"}
			if !f.Dir || run%11 == 0 {
				f.Data = []byte(anyOf(&seed, []string{"", "x", "yz"}))
			}
			l = append(l, f)
		}
		came[ofAlike(t, l)]++
	}
	for _, err := range []api.Errno{api.OK, api.ErrName, api.ErrDir, api.ErrExists, api.ErrFile} {
		if came[err] < 50 {
			t.Errorf("error %d came %d times", err, came[err])
		}
	}
}

// ofAlike holds Of of a list against the chapter's words.
func ofAlike(t *testing.T, l []api.File) api.Errno {
	t.Helper()
	tr, err := Of(l)
	w, want := wordedOf(l)
	if err != want || want != api.OK && tr != nil {
		t.Fatalf("Of(%.300q): %v, error %d, want error %d", told(l), tr, err, want)
	}
	if want == api.OK {
		has(t, tr, w.files()...)
	}
	return err
}

// P16.1: Of lists of about as many files as there is room for, directories among them that are not told.
func TestOfRoomWorded(t *testing.T) {
	for n := 100; n < 140; n++ {
		for depth := 1; depth <= 8; depth++ {
			l := listed(many(path8[:2*(depth-1)], n)...)
			ofAlike(t, l)
			ofAlike(t, append(l, listed("a/", "x/y/z/")...))
		}
	}
}

// P16.6: Of Files of a tree is the tree: it tells the same, and goes on as that does.
func TestBack(t *testing.T) {
	seed := uint32(6)
	for run := range 200 {
		tr, w := grown(t, &seed, run*2)
		again, err := Of(tr.Files())
		is(t, err, api.OK)
		for range 20 {
			p := anyPath(&seed, w)
			alike(t, again, w, p)
			alike(t, tr, w, p)
			a := anyAct(&seed, w)
			is(t, a.does(t, tr, maps.Clone(w)), a.does(t, again, w))
		}
	}
}

// P16.7: behind whatever calls the directory of each file is there, and a directory; what was refused changed nothing.
func TestShape(t *testing.T) {
	seed := uint32(7)
	for range 60 {
		tr, w := New(), worded{}
		for range 200 {
			before := told(tr.Files())
			if err := anyAct(&seed, w).does(t, tr, w); err != api.OK {
				has(t, tr, before...)
			}
			shaped(t, tr)
		}
	}
}

// shaped fails unless the directory of each file is there, and a directory, which lists it, and there is no more than there is room for.
func shaped(t *testing.T, tr *Tree) {
	t.Helper()
	l := tr.Files()
	if len(l) > 128 {
		t.Fatalf("%d files", len(l))
	}
	listed := 0
	for _, f := range append(l, api.File{}) {
		if names, err := tr.List(f.Name); err == api.OK {
			listed += len(names)
		}
		if f.Name == "" {
			continue
		}
		dir, err := tr.Find(dirOf(f.Name))
		if err != api.OK || !dir.Dir {
			t.Fatalf("%q stands in %v, error %d", f.Name, dir, err)
		}
	}
	if listed != len(l) {
		t.Fatalf("%d names are listed, of %d files", listed, len(l))
	}
}

// P16.8: what was renamed and renamed back is as it was.
func TestMoves(t *testing.T) {
	seed := uint32(8)
	moved := 0
	for range 300 {
		tr, w := grown(t, &seed, 150)
		before := w.files()
		for range 60 {
			from, to := anyPath(&seed, w), anyPath(&seed, w)
			if tr.Rename(from, to) != api.OK {
				has(t, tr, before...)
				continue
			}
			is(t, tr.Rename(to, from), api.OK)
			alike(t, tr, w, from)
			alike(t, tr, w, to)
			moved++
		}
	}
	if moved < 1000 {
		t.Fatalf("%d were moved", moved)
	}
}

// Who goes through a directory, or through all below it, may leave off.
func TestLeaveOff(t *testing.T) {
	tr := made(t, "a/b/c", "a/d", "e", "f/")
	all := tr.Files()
	for most := range all {
		var seen []string
		for names := range tr.root.below(nil) {
			if len(seen) == most {
				break
			}
			seen = append(seen, strings.Join(names, "/"))
		}
		for k, p := range seen {
			if p != all[k].Name || len(seen) != most {
				t.Fatalf("the first %d: %q", most, seen)
			}
		}
	}
	var keys []int
	for key, value := range (ordered[int, string]{3: "c", 1: "a", 4: "d", 2: "b"}).rising() {
		if value != string(rune('a'+key-1)) {
			t.Fatalf("%d leads to %q", key, value)
		}
		if keys = append(keys, key); len(keys) == 3 {
			break
		}
	}
	if !slices.Equal(keys, []int{1, 2, 3}) {
		t.Fatalf("keys: %v", keys)
	}
}
