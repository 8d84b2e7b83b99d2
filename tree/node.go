package tree

import (
	"bytes"
	"iter"
	"slices"

	"valise/api"
	"valise/path"
)

// node is a file or a directory, wherever it stands.
type node struct {
	// entries are what stands in a directory, by their names; of a file they are nil, of an empty directory they are not.
	entries ordered[string, *node]
	data    []byte
}

// newDir tells an empty directory.
func newDir() *node {
	return &node{entries: ordered[string, *node]{}}
}

// newFile tells a file with these bytes.
func newFile(b []byte) *node {
	return &node{data: bytes.Clone(b)}
}

// isDir tells whether a node is a directory.
func (n *node) isDir() bool {
	return n.entries != nil
}

// file tells a node as it stands at a path.
func (n *node) file(p string) api.File {
	return api.File{Name: p, Dir: n.isDir(), Data: bytes.Clone(n.data)}
}

// copied tells another node alike, with all that stands under it.
func (n *node) copied() *node {
	if !n.isDir() {
		return newFile(n.data)
	}
	other := newDir()
	for name, child := range n.entries.rising() {
		other.entries[name] = child.copied()
	}
	return other
}

// below goes through all that stands under a node, in path's order. With each come its names, as they are if the node's own are these.
func (n *node) below(names []string) iter.Seq2[[]string, *node] {
	return func(yield func(names []string, n *node) bool) {
		for name, child := range n.entries.rising() {
			// Clipped, or what is told next would be written over what was told ahead.
			its := append(slices.Clip(names), name)
			if !yield(its, child) {
				return
			}
			for deeper, grandchild := range child.below(its) {
				if !yield(deeper, grandchild) {
					return
				}
			}
		}
	}
}

// fits tells whether all that stands under a node has a path that may be, if the node stands at this one.
func (n *node) fits(p string) bool {
	names, err := path.Split(p)
	if err != api.OK {
		return false
	}
	for its := range n.below(names) {
		if _, err := path.Join(its); err != api.OK {
			return false
		}
	}
	return true
}
