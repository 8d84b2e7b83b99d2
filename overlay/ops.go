package overlay

import (
	"slices"

	"valise/api"
	"valise/path"
)

// method tells what does what is asked for, or nothing.
func (f *FS) method(kind int) func(who int, op api.Op) api.Result {
	switch kind {
	case api.OpOpen:
		return f.open
	case api.OpRead:
		return f.read
	case api.OpWrite:
		return f.write
	case api.OpTruncate:
		return f.truncate
	case api.OpClose:
		return f.close
	case api.OpMkdir:
		return f.mkdir
	case api.OpRemove:
		return f.remove
	case api.OpRename:
		return f.rename
	case api.OpList:
		return f.list
	}
	return nil
}

// answer tells an error, or that all is well, and nothing else.
func answer(err api.Errno) api.Result {
	return api.Result{Errno: err}
}

// open opens a file.
func (f *FS) open(who int, op api.Op) api.Result {
	handles := &f.handles[who]
	k := slices.IndexFunc(handles[:], func(h handle) bool { return h.file == nil })
	if k < 0 {
		return answer(api.ErrNoSpace)
	}
	its, err := f.find(op.Path, op.Create)
	if err != api.OK {
		return answer(err)
	}
	handles[k] = handle{file: its, write: op.Write}
	return api.Result{Handle: k + 1}
}

// find tells the file that a text means; if there is nothing, it may be made.
func (f *FS) find(text string, create bool) (*file, api.Errno) {
	p, err := path.Clean(text)
	if err != api.OK {
		return nil, err
	}
	e, err := f.tree.Find(p)
	switch {
	case create && err == api.ErrNone:
		return f.create(p)
	case err != api.OK:
		return nil, err
	case e.Dir:
		return nil, api.ErrDir
	}
	return f.at(e), api.OK
}

// create makes a file of nothing.
func (f *FS) create(p string) (*file, api.Errno) {
	// If no number is free, the tree has no room, either: then it puts nothing.
	number := slices.Index(f.files[:], nil)
	if err := f.tree.Put(p, []byte{byte(number)}); err != api.OK {
		return nil, err
	}
	its := &file{}
	f.files[number] = its
	return its, api.OK
}

// read tells some of a file's bytes.
func (f *FS) read(who int, op api.Op) api.Result {
	h := f.handle(who, op.Handle)
	switch {
	case h == nil:
		return answer(api.ErrHandle)
	case op.At < 0 || op.N < 0:
		return answer(api.ErrArg)
	}
	n := min(op.N, max(h.file.size-op.At, 0))
	return api.Result{Data: h.file.read(op.At, n)}
}

// write has bytes stand in a file.
func (f *FS) write(who int, op api.Op) api.Result {
	h, n := f.handle(who, op.Handle), len(op.Data)
	switch {
	case h == nil:
		return answer(api.ErrHandle)
	case !h.write || op.At < 0:
		return answer(api.ErrArg)
	case n == 0:
		return api.Result{}
	case op.At > api.MaxFile-n:
		return answer(api.ErrTooLarge)
	case !f.fits(h.file, op.At+n):
		return answer(api.ErrNoSpace)
	}
	h.file.write(op.At, op.Data)
	return api.Result{N: n}
}

// truncate has a file be shorter or longer.
func (f *FS) truncate(who int, op api.Op) api.Result {
	h := f.handle(who, op.Handle)
	switch {
	case h == nil:
		return answer(api.ErrHandle)
	case !h.write || op.N < 0:
		return answer(api.ErrArg)
	case op.N > api.MaxFile:
		return answer(api.ErrTooLarge)
	case !f.fits(h.file, op.N):
		return answer(api.ErrNoSpace)
	}
	h.file.resize(op.N)
	return api.Result{}
}

// fits tells whether there is room for a file to have so many bytes. For no more of them than it has there always is.
func (f *FS) fits(its *file, size int) bool {
	return f.Used()-its.size+size <= api.MaxQuota
}

// close closes a handle.
func (f *FS) close(who int, op api.Op) api.Result {
	h := f.handle(who, op.Handle)
	if h == nil {
		return answer(api.ErrHandle)
	}
	*h = handle{}
	return api.Result{}
}

// mkdir makes a directory.
func (f *FS) mkdir(_ int, op api.Op) api.Result {
	p, err := path.Clean(op.Path)
	if err != api.OK {
		return answer(err)
	}
	return answer(f.tree.Mkdir(p))
}

// remove takes away a file that nobody has open, or an empty directory.
func (f *FS) remove(_ int, op api.Op) api.Result {
	p, err := path.Clean(op.Path)
	if err != api.OK {
		return answer(err)
	}
	e, err := f.tree.Find(p)
	switch {
	case err != api.OK:
		return answer(err)
	case e.Dir:
		return answer(f.tree.Remove(p))
	case f.isOpen(f.at(e)):
		return answer(api.ErrBusy)
	}
	f.files[e.Data[0]] = nil
	return answer(f.tree.Remove(p))
}

// isOpen tells whether anybody has a file open.
func (f *FS) isOpen(its *file) bool {
	for _, handles := range f.handles {
		for _, h := range handles {
			if h.file == its {
				return true
			}
		}
	}
	return false
}

// rename moves a file, or a directory with all in it.
func (f *FS) rename(_ int, op api.Op) api.Result {
	from, err := path.Clean(op.Path)
	if err != api.OK {
		return answer(err)
	}
	to, err := path.Clean(op.To)
	if err != api.OK {
		return answer(err)
	}
	return answer(f.tree.Rename(from, to))
}

// list tells the names in a directory.
func (f *FS) list(_ int, op api.Op) api.Result {
	p, err := path.Clean(op.Path)
	if err != api.OK {
		return answer(err)
	}
	names, err := f.tree.List(p)
	return api.Result{Errno: err, Names: names}
}
