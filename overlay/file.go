package overlay

import (
	"iter"

	"valise/api"
)

// block is the bytes of a file's block, 0 behind the file's end.
type block [api.MaxBlock]byte

// file is a file's bytes, wherever it stands.
type file struct {
	size int
	// own are the blocks in which something was written.
	own [api.MaxFile / api.MaxBlock]*block
	// left is how many of the base's bytes were never cut off. In a block that is not the file's own, they are what the base tells, and what stands behind them is 0.
	left int
	// name is what the base knows the file by.
	name string
	base api.Base
}

// piece is where some of a file's bytes stand: from one place of a block up to another one.
type piece struct {
	block, from, to int
}

// pieces goes through the blocks in which a file's bytes from one place up to another one stand.
func pieces(at, end int) iter.Seq[piece] {
	return func(yield func(p piece) bool) {
		for at < end {
			number := at / api.MaxBlock
			first := number * api.MaxBlock
			next := min(first+api.MaxBlock, end)
			if !yield(piece{block: number, from: at - first, to: next - first}) {
				return
			}
			at = next
		}
	}
}

// block tells one of a file's blocks: its own one, or else a new one of what the base tells.
func (f *file) block(number int) *block {
	if f.own[number] != nil {
		return f.own[number]
	}
	b := &block{}
	if n := f.left - number*api.MaxBlock; n > 0 {
		copy(b[:min(n, api.MaxBlock)], f.base.Block(api.Key{File: f.name, I: number}))
	}
	return b
}

// read tells n bytes from a place on, all of which the file has.
func (f *file) read(at, n int) []byte {
	data := make([]byte, 0, n)
	for p := range pieces(at, at+n) {
		data = append(data, f.block(p.block)[p.from:p.to]...)
	}
	return data
}

// write has bytes stand from a place on, where no file ends too late for it.
func (f *file) write(at int, data []byte) {
	end := at + len(data)
	for p := range pieces(at, end) {
		b := f.block(p.block)
		f.own[p.block] = b
		data = data[copy(b[p.from:p.to], data):]
	}
	f.size = max(f.size, end)
}

// resize has a file be n bytes long.
func (f *file) resize(n int) {
	f.size = n
	f.left = min(f.left, n)
	// What was cut off may not come back when the file grows.
	for p := range pieces(n, api.MaxFile) {
		if p.from == 0 {
			f.own[p.block] = nil
		} else if b := f.own[p.block]; b != nil {
			clear(b[p.from:])
		}
	}
}
