package field

import (
	"bytes"
	"encoding/binary"
	"math"
	"math/big"
	"testing"

	"valise/api"
)

// some tells n bytes that follow no simple pattern, others for each seed.
func some(n int, seed uint32) []byte {
	var l []byte
	for range n {
		seed = seed*1664525 + 1013904223
		l = append(l, byte(seed>>24))
	}
	return l
}

// numbers are numbers: the edges, single bits and their neighbours, and some without a pattern.
func numbers() []int {
	l := []int{0, 3, 300, 65534, 65535, 65536, 65537, 70000, 92681, 0x01020304, api.MaxNum - 1, api.MaxNum}
	for k := range 32 {
		l = append(l, 1<<k, 1<<k-1)
	}
	seed := uint32(5)
	for range 20 {
		seed = seed*1664525 + 1013904223
		l = append(l, int(seed), int(seed>>16))
	}
	return l
}

// smalls are the small ones of them.
func smalls() []int {
	var l []int
	for _, n := range numbers() {
		if n < 65536 {
			l = append(l, n)
		}
	}
	return l
}

// noNumbers are none.
func noNumbers() []int {
	return []int{-1, -2, -255, -65536, -api.MaxNum, math.MinInt, api.MaxNum + 1, api.MaxNum + 2, 1 << 33, 1 << 40, math.MaxInt}
}

// same fails if a call answered an error, or other bytes.
func same(t *testing.T, what string, got []byte, err api.Errno, want []byte) {
	t.Helper()
	if err != api.OK || !bytes.Equal(got, want) {
		t.Errorf("%s: %x, error %d, want %x", what, got, err, want)
	}
}

// none fails if a refused call answered another error, or bytes.
func none(t *testing.T, what string, got []byte, err, want api.Errno) {
	t.Helper()
	if err != want || len(got) != 0 {
		t.Errorf("%s: %x, error %d, want error %d", what, got, err, want)
	}
}

// is fails if a call answered another number, or another error.
func is(t *testing.T, what string, got int, err api.Errno, want int, fault api.Errno) {
	t.Helper()
	if got != want || err != fault {
		t.Errorf("%s: %d, error %d, want %d, error %d", what, got, err, want, fault)
	}
}

// must is an answer of a call that may not fail.
func must[T any](t *testing.T) func(v T, err api.Errno) T {
	return func(v T, err api.Errno) T {
		t.Helper()
		if err != api.OK {
			t.Fatalf("error %d", err)
		}
		return v
	}
}

// P3.1: Put2 and Put4 lay a number behind the bytes, its lowest byte first.
func TestPut(t *testing.T) {
	got, err := Put2(nil, 300)
	same(t, "Put2(nothing, 300)", got, err, []byte{0x2c, 0x01})
	got, err = Put4([]byte{}, 70000)
	same(t, "Put4(nothing, 70000)", got, err, []byte{0x70, 0x11, 0x01, 0x00})
	got, err = Put4([]byte{9}, 0x01020304)
	same(t, "Put4(09, 1020304)", got, err, []byte{9, 4, 3, 2, 1})
	for _, n := range []int{0, 1, 2, 3, 7, 8, 9, 500} {
		b := some(n, 1)
		for _, v := range smalls() {
			got, err := Put2(b, v)
			same(t, "Put2", got, err, binary.LittleEndian.AppendUint16(bytes.Clone(b), uint16(v)))
		}
		for _, v := range numbers() {
			got, err := Put4(b, v)
			same(t, "Put4", got, err, binary.LittleEndian.AppendUint32(bytes.Clone(b), uint32(v)))
		}
	}
}

// P3.1: what is no number, no small one, is refused.
func TestPutRefused(t *testing.T) {
	for _, b := range [][]byte{nil, {}, {1}, some(30, 1)} {
		for _, v := range noNumbers() {
			got, err := Put2(b, v)
			none(t, "Put2", got, err, api.ErrArg)
			got, err = Put4(b, v)
			none(t, "Put4", got, err, api.ErrArg)
		}
		for _, v := range []int{65536, 65537, 70000, 1 << 17, 1 << 24, api.MaxNum} {
			got, err := Put2(b, v)
			none(t, "Put2", got, err, api.ErrArg)
		}
	}
}

// P3.2: Get2 and Get4 tell the number that stands at a place.
func TestGet(t *testing.T) {
	for n := range 12 {
		b := some(n, uint32(n))
		for at := range n + 1 {
			got, err := Get2(b, at)
			if n-at < 2 {
				is(t, "Get2 of too few", got, err, 0, api.ErrShort)
			} else {
				is(t, "Get2", got, err, int(binary.LittleEndian.Uint16(b[at:])), api.OK)
			}
			got, err = Get4(b, at)
			if n-at < 4 {
				is(t, "Get4 of too few", got, err, 0, api.ErrShort)
			} else {
				is(t, "Get4", got, err, int(binary.LittleEndian.Uint32(b[at:])), api.OK)
			}
		}
	}
	full := []byte{0, 0xff, 0xff, 0xff, 0xff, 0}
	got, err := Get2(full, 1)
	is(t, "Get2 of ff", got, err, 65535, api.OK)
	got, err = Get4(full, 1)
	is(t, "Get4 of ff", got, err, api.MaxNum, api.OK)
}

// P3.2: a place that is none is refused, ahead of too few bytes.
func TestGetRefused(t *testing.T) {
	for n := range 7 {
		b := some(n, 3)
		for _, at := range []int{-1, -2, -4, math.MinInt, n + 1, n + 2, n + 4, math.MaxInt - 1, math.MaxInt} {
			got, err := Get2(b, at)
			is(t, "Get2", got, err, 0, api.ErrArg)
			got, err = Get4(b, at)
			is(t, "Get4", got, err, 0, api.ErrArg)
		}
	}
	got, err := Get4([]byte{1, 2, 3}, 0)
	is(t, "Get4 of 3 bytes", got, err, 0, api.ErrShort)
	got, err = Get2([]byte{1, 2, 3}, 4)
	is(t, "Get2 at 4 of 3 bytes", got, err, 0, api.ErrArg)
	got, err = Get2(nil, 0)
	is(t, "Get2 of nothing", got, err, 0, api.ErrShort)
}

// P3.2: bytes behind a list's end are not there.
func TestGetEnd(t *testing.T) {
	memory := some(20, 4)
	got, err := Get2(memory[:5], 4)
	is(t, "Get2 over the end", got, err, 0, api.ErrShort)
	got, err = Get4(memory[:5], 2)
	is(t, "Get4 over the end", got, err, 0, api.ErrShort)
	got, err = Get4(memory[:5], 6)
	is(t, "Get4 behind the end", got, err, 0, api.ErrArg)
	piece, err := Piece(memory[:5], 2, 4)
	none(t, "Piece over the end", piece, err, api.ErrShort)
	piece, err = Piece(memory[:5], 6, 0)
	none(t, "Piece behind the end", piece, err, api.ErrArg)
}

// P3.2: Piece tells the bytes that stand at a place.
func TestPiece(t *testing.T) {
	for n := range 12 {
		b := some(n, uint32(n))
		for at := range n + 1 {
			for m := range n - at + 1 {
				got, err := Piece(b, at, m)
				same(t, "Piece", got, err, b[at:at+m])
			}
		}
	}
	got, err := Piece(nil, 0, 0)
	same(t, "Piece of nothing", got, err, nil)
	all := some(api.MaxArchive, 6)
	got, err = Piece(all, 1, api.MaxArchive-1)
	same(t, "Piece of an archive", got, err, all[1:])
}

// P3.2: what Piece refuses: ErrArg ahead of ErrShort.
func TestPieceRefused(t *testing.T) {
	for n := range 7 {
		b := some(n, 3)
		for _, at := range []int{-1, -2, math.MinInt, n + 1, n + 2, math.MaxInt} {
			for _, m := range []int{-1, 0, 1, n, math.MinInt, math.MaxInt} {
				got, err := Piece(b, at, m)
				none(t, "Piece at no place", got, err, api.ErrArg)
			}
		}
		for at := range n + 1 {
			for _, m := range []int{-1, -at, -at - 1, math.MinInt, math.MinInt + 1} {
				if m < 0 {
					got, err := Piece(b, at, m)
					none(t, "Piece of fewer than no bytes", got, err, api.ErrArg)
				}
			}
			for _, m := range []int{n - at + 1, n - at + 2, n + 1, math.MaxInt32, math.MaxInt - at, math.MaxInt} {
				got, err := Piece(b, at, m)
				none(t, "Piece of too many bytes", got, err, api.ErrShort)
			}
		}
	}
}

// exact tells what of two numbers comes, exactly, and whether it is a number.
func exact(a, b int, do func(z, x, y *big.Int) *big.Int) (int, bool) {
	z := do(new(big.Int), big.NewInt(int64(a)), big.NewInt(int64(b)))
	if z.Sign() < 0 || z.Cmp(big.NewInt(api.MaxNum)) > 0 {
		return 0, false
	}
	return int(z.Int64()), true
}

// sum is a call that reckons, and what it reckons.
type sum struct {
	call func(a, b int) (int, api.Errno)
	do   func(z, x, y *big.Int) *big.Int
}

// sums are all of them.
func sums() map[string]sum {
	return map[string]sum{"Add": {Add, (*big.Int).Add}, "Sub": {Sub, (*big.Int).Sub}, "Mul": {Mul, (*big.Int).Mul}}
}

// P3.3: sums, differences and products are told exactly, or ErrTooLarge.
func TestSums(t *testing.T) {
	for name, sum := range sums() {
		for _, a := range numbers() {
			for _, b := range numbers() {
				fault := api.OK
				want, ok := exact(a, b, sum.do)
				if !ok {
					fault = api.ErrTooLarge
				}
				got, err := sum.call(a, b)
				is(t, name, got, err, want, fault)
			}
		}
	}
}

// P3.3: the edges of each.
func TestSumsEdges(t *testing.T) {
	const most = api.MaxNum
	for name, edges := range map[string][]struct {
		a, b, want int
		fault      api.Errno
	}{
		"Add": {{0, 0, 0, 0}, {most, 0, most, 0}, {0, most, most, 0}, {most - 1, 1, most, 0}, {1 << 31, 1<<31 - 1, most, 0},
			{most, 1, 0, api.ErrTooLarge}, {1, most, 0, api.ErrTooLarge}, {1 << 31, 1 << 31, 0, api.ErrTooLarge}, {most, most, 0, api.ErrTooLarge}},
		"Sub": {{0, 0, 0, 0}, {most, most, 0, 0}, {most, 0, most, 0}, {2, 1, 1, 0}, {most, 1, most - 1, 0},
			{1, 2, 0, api.ErrTooLarge}, {0, 1, 0, api.ErrTooLarge}, {0, most, 0, api.ErrTooLarge}, {most - 1, most, 0, api.ErrTooLarge}},
		"Mul": {{0, 0, 0, 0}, {0, most, 0, 0}, {most, 0, 0, 0}, {1, most, most, 0}, {most, 1, most, 0}, {65535, 65537, most, 0}, {65537, 65535, most, 0}, {65535, 65535, 0xfffe0001, 0},
			{65536, 65536, 0, api.ErrTooLarge}, {65537, 65536, 0, api.ErrTooLarge}, {2, 1 << 31, 0, api.ErrTooLarge}, {1 << 31, 2, 0, api.ErrTooLarge}, {most, 2, 0, api.ErrTooLarge},
			{1 << 31, 1 << 31, 0, api.ErrTooLarge}, {most, most, 0, api.ErrTooLarge}, {3037000500, 3037000500, 0, api.ErrTooLarge}},
	} {
		for _, e := range edges {
			got, err := sums()[name].call(e.a, e.b)
			is(t, name, got, err, e.want, e.fault)
		}
	}
}

// P3.3: what is no number is refused on either side, even where what comes of it would be one.
func TestSumsRefused(t *testing.T) {
	for name, sum := range sums() {
		for _, a := range noNumbers() {
			for _, b := range append(numbers(), noNumbers()...) {
				got, err := sum.call(a, b)
				is(t, name, got, err, 0, api.ErrArg)
				got, err = sum.call(b, a)
				is(t, name, got, err, 0, api.ErrArg)
			}
		}
	}
}

// P3.4: what was put is got, whatever stands ahead and behind.
func TestBack(t *testing.T) {
	for n := range 10 {
		ahead, behind := some(n, 7), some(9-n, 8)
		for _, v := range smalls() {
			b := append(must[[]byte](t)(Put2(ahead, v)), behind...)
			got, err := Get2(b, n)
			is(t, "Get2 of what was put", got, err, v, api.OK)
			got, err = Get2(b[:n+2], n)
			is(t, "Get2 of what was put last", got, err, v, api.OK)
		}
		for _, v := range numbers() {
			b := append(must[[]byte](t)(Put4(ahead, v)), behind...)
			got, err := Get4(b, n)
			is(t, "Get4 of what was put", got, err, v, api.OK)
			got, err = Get4(b[:n+4], n)
			is(t, "Get4 of what was put last", got, err, v, api.OK)
		}
	}
	for v := range 65536 {
		got, err := Get2(must[[]byte](t)(Put2(nil, v)), 0)
		is(t, "Get2 of what was put", got, err, v, api.OK)
	}
}

// P3.4: what is got is put as these bytes.
func TestForth(t *testing.T) {
	for seed := range uint32(50) {
		b := some(12, seed)
		for at := range 9 {
			two, err := Put2(b[:at], must[int](t)(Get2(b, at)))
			same(t, "Put2 of what was got", two, err, b[:at+2])
			four, err := Put4(b[:at], must[int](t)(Get4(b, at)))
			same(t, "Put4 of what was got", four, err, b[:at+4])
		}
	}
}

// P3.5: four bytes are two small numbers, the lower one first.
func TestHalves(t *testing.T) {
	for _, v := range numbers() {
		low := must[[]byte](t)(Put2(some(3, 1), v%65536))
		want := must[[]byte](t)(Put2(low, v/65536))
		got, err := Put4(some(3, 1), v)
		same(t, "Put4", got, err, want)
		two, err := Get2(got, 3)
		is(t, "the lower half", two, err, v%65536, api.OK)
		two, err = Get2(got, 5)
		is(t, "the upper half", two, err, v/65536, api.OK)
		four, err := Get4(want, 3)
		is(t, "both halves", four, err, v, api.OK)
	}
}

// P3.5: pieces that adjoin are one piece.
func TestAdjoin(t *testing.T) {
	b := some(14, 9)
	for from := range len(b) + 1 {
		for to := from; to <= len(b); to++ {
			whole := must[[]byte](t)(Piece(b, from, to-from))
			for at := from; at <= to; at++ {
				left := must[[]byte](t)(Piece(b, from, at-from))
				right := must[[]byte](t)(Piece(b, at, to-at))
				same(t, "two pieces", append(left, right...), api.OK, whole)
			}
		}
	}
}

// P3.6: Sub undoes Add.
func TestUndo(t *testing.T) {
	for _, a := range numbers() {
		for _, b := range numbers() {
			sum, err := Add(a, b)
			if err != api.OK {
				continue
			}
			got, err := Sub(sum, b)
			is(t, "Sub of the second", got, err, a, api.OK)
			got, err = Sub(sum, a)
			is(t, "Sub of the first", got, err, b, api.OK)
		}
	}
}

// P3.6: a product is a sum of one number, so many times, and too large as soon as the sum is.
func TestProducts(t *testing.T) {
	for _, a := range numbers() {
		sum, fault := 0, api.OK
		for n := range 40 {
			got, err := Mul(a, n)
			is(t, "Mul", got, err, sum, fault)
			got, err = Mul(n, a)
			is(t, "Mul the other way about", got, err, sum, fault)
			if fault == api.OK {
				sum, fault = Add(sum, a)
			}
		}
	}
}

// The rules that hold everywhere: what is handed in stays, behind its end, too, and is not kept by an answer.
func TestApart(t *testing.T) {
	calls := map[string]func(b []byte) []byte{
		"Put2":        func(b []byte) []byte { r, _ := Put2(b, 0x1234); return r },
		"Put4":        func(b []byte) []byte { r, _ := Put4(b, 0x12345678); return r },
		"Piece":       func(b []byte) []byte { r, _ := Piece(b, 1, 3); return r },
		"Piece whole": func(b []byte) []byte { r, _ := Piece(b, 0, len(b)); return r },
		"Piece none":  func(b []byte) []byte { r, _ := Piece(b, 2, 0); return r },
		"Piece last":  func(b []byte) []byte { r, _ := Piece(b, len(b), 0); return r },
	}
	for name, call := range calls {
		for n := 4; n < 20; n++ {
			memory := some(40, uint32(n))
			before := bytes.Clone(memory)
			first, second := call(memory[:n]), call(memory[:n])
			keep := bytes.Clone(second)
			first = first[:cap(first)]
			for i := range first {
				first[i] ^= 0xff
			}
			if !bytes.Equal(memory, before) {
				t.Errorf("%s: what was handed in is %x, was %x", name, memory, before)
			}
			if !bytes.Equal(second, keep) {
				t.Errorf("%s: two answers share memory", name)
			}
		}
	}
}
