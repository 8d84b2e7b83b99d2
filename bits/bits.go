// Package bits is layer 1: rows of bits, the lowest bit of a byte first, as DEFLATE has them. See shared/doc/01-bits.md.
package bits

import "valise/api"

// maxTurn is the most bits that Turn takes: room for any code (api.MaxCode).
const maxTurn = 16

// Check tells whether a row is right.
func Check(b api.Bits) api.Errno {
	if b.N < 0 || len(b.B) != size(b.N) {
		return api.ErrArg
	}
	if used := b.N % 8; used != 0 && b.B[len(b.B)-1]>>used != 0 {
		return api.ErrArg
	}
	return api.OK
}

// Put tells a row with a number's bits behind it.
func Put(b api.Bits, v, n int) (api.Bits, api.Errno) {
	if err := Check(b); err != api.OK {
		return api.Bits{}, err
	}
	if n > api.MaxBits || !fits(v, n) {
		return api.Bits{}, api.ErrArg
	}
	return extend(b, n, func(i int) byte { return byte(v >> i & 1) }), api.OK
}

// Get tells the number of some bits.
func Get(b api.Bits, at, n int) (int, api.Errno) {
	if err := Check(b); err != api.OK {
		return 0, err
	}
	if n < 0 || n > api.MaxBits || at < 0 || at > b.N {
		return 0, api.ErrArg
	}
	if n > b.N-at {
		return 0, api.ErrShort
	}
	v := 0
	for i := range n {
		v |= int(bitAt(b.B, at+i)) << i
	}
	return v, api.OK
}

// Turn tells a number with its bits the other way about.
func Turn(v, n int) (int, api.Errno) {
	if n > maxTurn || !fits(v, n) {
		return 0, api.ErrArg
	}
	turned := 0
	for i := range n {
		turned = turned<<1 | v>>i&1
	}
	return turned, api.OK
}

// Align tells a row up to a whole byte.
func Align(b api.Bits) (api.Bits, api.Errno) {
	if err := Check(b); err != api.OK {
		return api.Bits{}, err
	}
	missing := 8*len(b.B) - b.N
	return extend(b, missing, func(int) byte { return 0 }), api.OK
}

// Join tells a row with another one behind it.
func Join(b api.Bits, more api.Bits) (api.Bits, api.Errno) {
	if err := Check(b); err != api.OK {
		return api.Bits{}, err
	}
	if err := Check(more); err != api.OK {
		return api.Bits{}, err
	}
	return extend(b, more.N, func(i int) byte { return bitAt(more.B, i) }), api.OK
}

// Of tells the row of bytes.
func Of(b []byte) api.Bits {
	whole := api.Bits{B: b, N: 8 * len(b)}
	// Even with no bit behind it a row is copied: the answer shares nothing with b.
	return extend(whole, 0, nil)
}

// size tells how many bytes n bits need; n + 7 could be more than an int holds.
func size(n int) int {
	return n/8 + (n%8+7)/8
}

// fits tells whether v is a number of n bits.
func fits(v, n int) bool {
	return n >= 0 && v >= 0 && v>>n == 0
}

// bitAt tells the k-th bit of bytes.
func bitAt(b []byte, k int) byte {
	return b[k/8] >> (k % 8) & 1
}

// extend tells a copy of a row that is right, with n bits behind it: the i-th one is next(i).
func extend(b api.Bits, n int, next func(i int) byte) api.Bits {
	row := api.Bits{B: make([]byte, size(b.N+n)), N: b.N}
	copy(row.B, b.B)
	lay := func(bit byte) {
		row.B[row.N/8] |= bit << (row.N % 8)
		row.N++
	}
	for i := range n {
		lay(next(i))
	}
	return row
}
