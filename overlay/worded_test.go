package overlay

import (
	"bytes"
	"math"
	"slices"
	"strconv"
	"strings"
	"testing"

	"valise/api"
	"valise/path"
	"valise/tree"
)

// opened is a handle that is open, by the path that its file has.
type opened struct {
	path  string
	write bool
}

// worded are files without help of the package: a tree that has all bytes, and by each client's handles the paths of what is open, which a rename changes.
type worded struct {
	tree *tree.Tree
	open [8]map[int]opened
}

// wordedOf tells the files of such texts.
func wordedOf(t *testing.T, texts ...string) *worded {
	t.Helper()
	w := &worded{}
	var l []api.File
	for _, text := range texts {
		l = append(l, parsed(text))
	}
	var err api.Errno
	w.tree, err = tree.Of(l)
	if err != api.OK {
		t.Fatalf("tree.Of(%q): error %d", texts, err)
	}
	for who := range w.open {
		w.open[who] = map[int]opened{}
	}
	return w
}

// data tells a file's bytes.
func (w *worded) data(p string) []byte {
	f, err := w.tree.Find(p)
	if err != api.OK || f.Dir {
		panic(p)
	}
	return f.Data
}

// used is Used.
func (w *worded) used() int {
	n := 0
	for _, f := range w.tree.Files() {
		n += len(f.Data)
	}
	return n
}

// do is Do.
func (w *worded) do(who int, op api.Op) api.Result {
	if who < 0 || who > 7 || op.Kind < 1 || op.Kind > 9 {
		return api.Result{Errno: api.ErrArg}
	}
	switch op.Kind {
	case api.OpOpen:
		return w.doOpen(who, op)
	case api.OpRead, api.OpWrite, api.OpTruncate, api.OpClose:
		h, ok := w.open[who][op.Handle]
		if !ok {
			return api.Result{Errno: api.ErrHandle}
		}
		return w.doFile(who, h, op)
	}
	return w.doTree(op)
}

// doOpen is Do of OpOpen.
func (w *worded) doOpen(who int, op api.Op) api.Result {
	if len(w.open[who]) == 16 {
		return api.Result{Errno: api.ErrNoSpace}
	}
	p, err := path.Clean(op.Path)
	if err != api.OK {
		return api.Result{Errno: err}
	}
	if _, err = w.tree.Find(p); err == api.ErrNone && op.Create {
		err = w.tree.Put(p, nil)
	}
	if err != api.OK {
		return api.Result{Errno: err}
	}
	if f, _ := w.tree.Find(p); f.Dir {
		return api.Result{Errno: api.ErrDir}
	}
	for handle := 1; ; handle++ {
		if _, ok := w.open[who][handle]; !ok {
			w.open[who][handle] = opened{p, op.Write}
			return api.Result{Handle: handle}
		}
	}
}

// doFile is Do of what is asked of a handle that is open.
func (w *worded) doFile(who int, h opened, op api.Op) api.Result {
	data := w.data(h.path)
	size := len(data)
	switch op.Kind {
	case api.OpClose:
		delete(w.open[who], op.Handle)
		return api.Result{}
	case api.OpRead:
		if op.At < 0 || op.N < 0 {
			return api.Result{Errno: api.ErrArg}
		}
		data = data[min(op.At, size):]
		return api.Result{Data: data[:min(op.N, len(data))]}
	case api.OpWrite:
		if !h.write || op.At < 0 {
			return api.Result{Errno: api.ErrArg}
		}
		if len(op.Data) == 0 {
			return api.Result{}
		}
		if op.At > 65536 || op.At+len(op.Data) > 65536 {
			return api.Result{Errno: api.ErrTooLarge}
		}
		size = max(size, op.At+len(op.Data))
	case api.OpTruncate:
		if !h.write || op.N < 0 {
			return api.Result{Errno: api.ErrArg}
		}
		if size = op.N; size > 65536 {
			return api.Result{Errno: api.ErrTooLarge}
		}
	}
	if w.used()+size-len(data) > 1<<18 {
		return api.Result{Errno: api.ErrNoSpace}
	}
	b := make([]byte, size)
	copy(b, data)
	r := api.Result{}
	if op.Kind == api.OpWrite {
		r.N = copy(b[op.At:], op.Data)
	}
	if err := w.tree.Put(h.path, b); err != api.OK {
		panic(h.path)
	}
	return r
}

// doTree is Do of what is asked of paths.
func (w *worded) doTree(op api.Op) api.Result {
	p, err := path.Clean(op.Path)
	if err != api.OK {
		return api.Result{Errno: err}
	}
	switch op.Kind {
	case api.OpMkdir:
		return api.Result{Errno: w.tree.Mkdir(p)}
	case api.OpList:
		names, err := w.tree.List(p)
		return api.Result{Errno: err, Names: names}
	case api.OpRemove:
		for _, open := range w.open {
			for _, h := range open {
				if h.path == p {
					return api.Result{Errno: api.ErrBusy}
				}
			}
		}
		return api.Result{Errno: w.tree.Remove(p)}
	}
	to, err := path.Clean(op.To)
	if err == api.OK {
		err = w.tree.Rename(p, to)
	}
	for _, open := range w.open {
		for handle, h := range open {
			if err == api.OK && path.Under(h.path, p) {
				open[handle] = opened{to + h.path[len(p):], h.write}
			}
		}
	}
	return api.Result{Errno: err}
}

// same fails unless files tell what the worded ones do.
func same(t *testing.T, f *FS, w *worded) {
	t.Helper()
	got, want := f.Files(), w.tree.Files()
	if !slices.EqualFunc(got, want, func(a, b api.File) bool {
		return a.Name == b.Name && a.Dir == b.Dir && bytes.Equal(a.Data, b.Data)
	}) {
		t.Fatalf("Files: %.500q, want %.500q", told(got), told(want))
	}
	sameOpen(t, f, w)
}

// sameOpen fails unless files tell the handles that the worded ones do, and as many bytes.
func sameOpen(t *testing.T, f *FS, w *worded) {
	t.Helper()
	if f.Used() != w.used() {
		t.Fatalf("Used() = %d, want %d", f.Used(), w.used())
	}
	for who, open := range w.open {
		var want []int
		for handle := -1; handle < 19; handle++ {
			h, ok := open[handle]
			if ok {
				want = append(want, handle)
			}
			stands(t, f, who, handle, h.path)
		}
		holds(t, f, who, want...)
	}
}

// somePaths are texts of few paths that stand beside and under each other, and some that mean others of them, or none.
func somePaths() []string {
	return []string{"a", "b", "d", "d/a", "d/b", "d/e", "d/e/a", "d/e/f", "e", "", "/a/", "d//e", "d/../b", "d/e/..", "./d/./a", "a/b", "x/y", "\\", "d\\a"}
}

// someOps are things to ask for, of those paths and of few handles.
func someOps() []api.Op {
	l := []api.Op{{}, {Kind: api.OpFlush}, opOpen("x/y/z", "c"), opRead(1, -1, 0), opRead(1, 0, -1), opWrite(1, -1, "x"), opTruncate(1, -1), opRead(0, 0, 1), opClose(17)}
	for _, p := range []string{"a", "d/a", "d", "d/b", "x/y", "a/b", "\\"} {
		l = append(l, opOpen(p, ""), opOpen(p, "wc"), opMkdir(p), opRemove(p), opList(p))
		for _, to := range []string{"b", "d/e", "e/a", "d", "a/b", "/"} {
			l = append(l, opRename(p, to))
		}
	}
	for handle := 1; handle <= 3; handle++ {
		l = append(l, opRead(handle, 0, 9), opRead(handle, 4094, 4), opRead(handle, 2, 70000), opWrite(handle, 0, "x"), opWrite(handle, 4095, "yz"), opWrite(handle, 1, ""), opWrite(handle, 65535, "uv"), opTruncate(handle, 0), opTruncate(handle, 4095), opTruncate(handle, 4097), opTruncate(handle, 65537), opClose(handle))
	}
	return l
}

// come tells both files, behind some things that were asked for.
func come(t *testing.T, texts []string, ops []api.Op) (*FS, *worded) {
	t.Helper()
	f, _ := made(t, texts...)
	w := wordedOf(t, texts...)
	for k, op := range ops {
		both(t, f, w, k%2, op)
	}
	return f, w
}

// both does one thing with both files, and fails if the answers are not one. It tells the error.
func both(t *testing.T, f *FS, w *worded, who int, op api.Op) api.Errno {
	t.Helper()
	want := w.do(who, op)
	answers(t, f, who, op, want)
	return want.Errno
}

// P19.2, P19.3, P19.4: each two things, one after the other, that one client or two ask for behind each of some beginnings.
func TestAllOps(t *testing.T) {
	files := []string{"a*5000", "d/b*4096", "d/e/c=xyz", "b/"}
	for _, ahead := range [][]api.Op{
		nil,
		{opOpen("a", "w"), opOpen("d/b", "w"), opOpen("a", ""), opOpen("d/e/c", "w")},
		{opOpen("a", "w"), opOpen("a", "w"), opOpen("d/a", "wc"), opOpen("d/e/c", ""), opWrite(1, 4090, "0123456789"), opTruncate(1, 4100), opRemove("b"), opRename("a", "b")},
	} {
		for _, first := range someOps() {
			for k, second := range someOps() {
				f, w := come(t, files, ahead)
				both(t, f, w, 0, first)
				both(t, f, w, k%2, second)
				same(t, f, w)
			}
		}
	}
}

// anyNumber tells a place, or a number of bytes: mostly one near to where blocks end, few of them far away, seldom none that may be.
func anyNumber(seed *uint32, far int) int {
	if next(seed, 40) == 0 {
		wrong := []int{-1, -4096, math.MinInt, 65535, 65536, 65537, 1 << 32, math.MaxInt}
		return wrong[next(seed, len(wrong))]
	}
	return max(next(seed, far)*4096+next(seed, 7)-3, 0)
}

// anyOp tells a thing to ask for.
func anyOp(seed *uint32, far int) api.Op {
	paths := somePaths()
	op := api.Op{Kind: 1 + next(seed, 9), Path: paths[next(seed, len(paths))], To: paths[next(seed, len(paths))], Handle: 1 + next(seed, 3), At: anyNumber(seed, far), N: anyNumber(seed, far), Write: next(seed, 3) > 0, Create: next(seed, 2) > 0}
	switch {
	case next(seed, 60) == 0:
		op.Kind = next(seed, 300) - 100
	case next(seed, 30) == 0:
		op.Handle = next(seed, 21) - 2
	case op.Kind == api.OpRemove && next(seed, 2) == 0, op.Kind == api.OpClose && next(seed, 3) > 0:
		op.Kind = api.OpOpen
	}
	if op.Kind == api.OpWrite {
		op.Data = pattern(strconv.Itoa(next(seed, 1000)), min(max(next(seed, 3)*next(seed, far)*4096+next(seed, 5)-2, 0), 70000))
	}
	return op
}

// P19.2, P19.3, P19.4: whatever is asked for, files answer what the chapter says.
func TestWorded(t *testing.T) {
	came := map[api.Errno]int{}
	for run := range uint32(250) {
		seed := run*7919 + 1
		far := []int{2, 3, 5, 17}[run%4]
		texts := []string{"a*" + strconv.Itoa(next(&seed, 65537)), "d/b*" + strconv.Itoa(next(&seed, 9000)), "d/e/a=xyz", "d/e/f/", "g*65536", "h*65536", "i*40000"}[:next(&seed, 8)]
		f, w := come(t, texts, nil)
		clients := 1 + next(&seed, 8)
		for k := range 200 {
			who := next(&seed, clients)
			if next(&seed, 100) == 0 {
				who = nobody()[next(&seed, len(nobody()))]
			}
			came[both(t, f, w, who, anyOp(&seed, far))]++
			if k%8 == 7 {
				same(t, f, w)
			}
		}
		same(t, f, w)
	}
	for err, least := range map[api.Errno]int{api.OK: 10000, api.ErrArg: 1000, api.ErrTooLarge: 100, api.ErrNoSpace: 50, api.ErrName: 500, api.ErrNone: 1000, api.ErrExists: 1000, api.ErrDir: 500, api.ErrFile: 500, api.ErrBusy: 1000, api.ErrHandle: 1000} {
		if came[err] < least {
			t.Errorf("error %d came %d times", err, came[err])
		}
	}
}

// P19.4: many reads, writes and cuts of few files, with what is read held against all bytes.
func TestWordedBytes(t *testing.T) {
	for run := range uint32(150) {
		seed := run*104729 + 3
		f, w := come(t, []string{"a*20000", "b*4096", "c*12289"}, []api.Op{opOpen("a", "w"), opOpen("a", "w"), opOpen("b", "w"), opOpen("b", "w"), opOpen("c", "w"), opOpen("c", "w")})
		for range 120 {
			op := api.Op{Kind: []int{api.OpRead, api.OpRead, api.OpWrite, api.OpWrite, api.OpTruncate}[next(&seed, 5)], Handle: 1 + next(&seed, 3), At: next(&seed, 25000), N: next(&seed, 25000)}
			if next(&seed, 3) == 0 {
				op.At, op.N = anyNumber(&seed, 6), anyNumber(&seed, 6)
			}
			if op.Kind == api.OpWrite {
				op.Data = pattern(strconv.Itoa(next(&seed, 1000)), 1+next(&seed, []int{3, 100, 10000}[next(&seed, 3)]))
			}
			both(t, f, w, next(&seed, 2), op)
		}
		same(t, f, w)
	}
}

// P19.1: whatever the list, it is refused as the chapter says, or makes the files that it tells.
func TestWordedNew(t *testing.T) {
	names := []string{"a", "b", "a/b", "a b", "d", "d/e", "d/e/a", "c", "e", "f", "g", "h", "i", "j", "k", "l"}
	sizes := []int{0, 1, 5, 40000, 65535, 65536, 65536, 65536}
	came := map[api.Errno]int{}
	for run := range uint32(10000) {
		seed := run*31 + 7
		var l []api.Meta
		base := &based{t: t, files: map[string][]byte{}}
		for k := range next(&seed, 9) {
			m := api.Meta{Name: names[next(&seed, len(names))], Dir: next(&seed, 4) == 0}
			if run%2 == 0 {
				// Names that are often one leave little that is refused for its size.
				m.Name = names[len(names)-1-k]
			}
			if !m.Dir {
				m.Size = sizes[next(&seed, len(sizes))]
			}
			if next(&seed, 40) == 0 {
				m.Size = []int{-1, 1, 65537, math.MaxInt, math.MinInt}[next(&seed, 5)]
			}
			if next(&seed, 40) == 0 {
				m.Name = []string{"", "/", "a/", "..", strings.Repeat("n", 33)}[next(&seed, 5)]
			}
			l = append(l, m)
		}
		files, want := wordedNew(l)
		for _, f := range files {
			base.files[f.Name] = f.Data
		}
		f, err := New(l, base)
		came[err]++
		if err != want || (f == nil) != (err != api.OK) {
			t.Fatalf("New(%v) = %v, error %d, want error %d", l, f, err, want)
		}
		if err == api.OK {
			tr, _ := tree.Of(files)
			has(t, f, told(tr.Files())...)
		}
	}
	for _, err := range []api.Errno{api.OK, api.ErrArg, api.ErrTooLarge, api.ErrName, api.ErrExists, api.ErrFile, api.ErrNoSpace} {
		if came[err] < 200 {
			t.Errorf("error %d came %d times", err, came[err])
		}
	}
}

// wordedNew tells the files that a list tells, or New's error of it.
func wordedNew(l []api.Meta) ([]api.File, api.Errno) {
	var files []api.File
	used := 0
	for _, m := range l {
		if m.Size < 0 || m.Dir && m.Size != 0 {
			return nil, api.ErrArg
		}
	}
	for _, m := range l {
		if m.Size > 65536 {
			return nil, api.ErrTooLarge
		}
		files = append(files, api.File{Name: m.Name, Dir: m.Dir, Data: pattern(m.Name, m.Size)})
		used += m.Size
	}
	var empty []api.File
	for _, f := range files {
		empty = append(empty, api.File{Name: f.Name, Dir: f.Dir})
	}
	if _, err := tree.Of(empty); err != api.OK {
		return nil, err
	}
	if used > 1<<18 {
		return nil, api.ErrNoSpace
	}
	return files, api.OK
}
