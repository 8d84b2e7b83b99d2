package bits

import (
	"bytes"
	"math"
	"testing"

	"valise/api"
)

// list tells a row's bits, one number each, without help of the package.
func list(b api.Bits) []byte {
	var l []byte
	for k := range b.N {
		l = append(l, b.B[k/8]/(1<<(k%8))%2)
	}
	return l
}

// row tells the row of bits that are numbers, without help of the package.
func row(l []byte) api.Bits {
	b := api.Bits{N: len(l)}
	for k, x := range l {
		if k%8 == 0 {
			b.B = append(b.B, 0)
		}
		b.B[k/8] += x * (1 << (k % 8))
	}
	return b
}

// digits tells the n bits of a number, the lowest one first, without help of the package.
func digits(v, n int) []byte {
	var l []byte
	for range n {
		l = append(l, byte(v%2))
		v /= 2
	}
	return l
}

// some tells n bits that follow no simple pattern, others for each seed.
func some(n int, seed uint32) []byte {
	var l []byte
	for range n {
		seed = seed*1664525 + 1013904223
		l = append(l, byte(seed>>24&1))
	}
	return l
}

// put is Put of what may be put.
func put(t *testing.T, b api.Bits, v, n int) api.Bits {
	t.Helper()
	got, err := Put(b, v, n)
	if err != api.OK {
		t.Fatalf("Put(%v, %d, %d): error %d", b, v, n, err)
	}
	return got
}

// same fails if a row is not right, or is another one than is wanted.
func same(t *testing.T, what string, got, want api.Bits) {
	t.Helper()
	if got.N != want.N || !bytes.Equal(got.B, want.B) {
		t.Errorf("%s: %x of %d bits, want %x of %d", what, got.B, got.N, want.B, want.N)
	}
}

// none fails if a refused call answered another error, or more than the zero row.
func none(t *testing.T, what string, got api.Bits, err, want api.Errno) {
	t.Helper()
	if err != want || got.N != 0 || len(got.B) != 0 {
		t.Errorf("%s: %v, error %d, want no row and error %d", what, got, err, want)
	}
}

// rights are rows that are right.
func rights() []api.Bits {
	l := []api.Bits{{}, {B: []byte{}}, {B: []byte{0}, N: 1}, {B: []byte{1}, N: 1}, {B: []byte{0xff}, N: 8}, {B: []byte{0xff, 1}, N: 9}}
	for n := range 70 {
		l = append(l, row(some(n, uint32(n))))
	}
	return l
}

// wrongs are rows that are not right, each for one reason.
func wrongs() []api.Bits {
	l := []api.Bits{
		{N: -1}, {N: -8}, {B: []byte{0}, N: -1}, {B: []byte{0}, N: -7}, {N: math.MinInt},
		{N: 1}, {B: []byte{0}, N: 9}, {B: []byte{0, 0}, N: 17}, {N: math.MaxInt}, {B: []byte{0}, N: math.MaxInt}, {N: math.MaxInt - 6},
		{B: []byte{0}}, {B: []byte{0, 0}, N: 8}, {B: []byte{0, 0}, N: 1}, {B: []byte{0, 0, 0}, N: 16},
	}
	for n := 1; n < 8; n++ {
		for k := n; k < 8; k++ {
			l = append(l, api.Bits{B: []byte{1 << k}, N: n}, api.Bits{B: []byte{0xff, 1 << k}, N: 8 + n})
		}
	}
	return l
}

// P1.1: a row is right, or ErrArg.
func TestCheck(t *testing.T) {
	for _, b := range rights() {
		if err := Check(b); err != api.OK {
			t.Errorf("Check(%v) = %d, want OK", b, err)
		}
	}
	for _, b := range wrongs() {
		if err := Check(b); err != api.ErrArg {
			t.Errorf("Check(%v) = %d, want ErrArg", b, err)
		}
	}
}

// P1.1: a row that is not right is refused by all that follows, ahead of all else.
func TestCheckFirst(t *testing.T) {
	good := api.Bits{B: []byte{5}, N: 3}
	for _, b := range wrongs() {
		got, err := Put(b, 1, 1)
		none(t, "Put", got, err, api.ErrArg)
		got, err = Align(b)
		none(t, "Align", got, err, api.ErrArg)
		got, err = Join(b, good)
		none(t, "Join of a wrong row", got, err, api.ErrArg)
		got, err = Join(good, b)
		none(t, "Join with a wrong row", got, err, api.ErrArg)
		if v, err := Get(b, 0, 0); v != 0 || err != api.ErrArg {
			t.Errorf("Get(%v, 0, 0) = %d, %d, want ErrArg", b, v, err)
		}
		if v, err := Get(b, 0, 32); v != 0 || err != api.ErrArg {
			t.Errorf("Get(%v, 0, 32) = %d, %d, want ErrArg", b, v, err)
		}
	}
}

// P1.2: Put lays a number's bits, the lowest one first, behind those that are there.
func TestPut(t *testing.T) {
	b := put(t, api.Bits{}, 5, 3)
	same(t, "5 in 3", b, api.Bits{B: []byte{0x05}, N: 3})
	b = put(t, b, 1, 1)
	same(t, "and 1 in 1", b, api.Bits{B: []byte{0x0d}, N: 4})
	same(t, "and 0 in 4", put(t, b, 0, 4), api.Bits{B: []byte{0x0d}, N: 8})
	same(t, "and 0 in 5", put(t, b, 0, 5), api.Bits{B: []byte{0x0d, 0}, N: 9})
	same(t, "and 1ff in 9", put(t, b, 0x1ff, 9), api.Bits{B: []byte{0xfd, 0x1f}, N: 13})
	same(t, "and nothing", put(t, b, 0, 0), b)
	same(t, "the greatest", put(t, api.Bits{}, api.MaxNum, 32), api.Bits{B: []byte{0xff, 0xff, 0xff, 0xff}, N: 32})
	same(t, "four bytes", put(t, api.Bits{B: []byte{1}, N: 1}, 0x81234567, 32), api.Bits{B: []byte{0xcf, 0x8a, 0x46, 0x02, 0x01}, N: 33})
}

// P1.2: the edges of n and of v, for each n.
func TestPutEdges(t *testing.T) {
	base := api.Bits{B: []byte{0x5a}, N: 7}
	for n := range 33 {
		most := int(math.Pow(2, float64(n))) - 1
		same(t, "the most", put(t, base, most, n), row(append(list(base), digits(most, n)...)))
		same(t, "the least", put(t, base, 0, n), row(append(list(base), digits(0, n)...)))
		for _, v := range []int{most + 1, 2 * (most + 1), -1, -most - 1, math.MaxInt, math.MinInt} {
			got, err := Put(base, v, n)
			none(t, "Put of what is too much", got, err, api.ErrArg)
		}
	}
	for _, n := range []int{-1, -32, 33, 63, 64, 65, math.MaxInt, math.MinInt} {
		for _, v := range []int{0, 1, -1} {
			got, err := Put(base, v, n)
			none(t, "Put of too many bits", got, err, api.ErrArg)
		}
	}
	got, err := Put(api.Bits{}, 8, 3)
	none(t, "8 in 3", got, err, api.ErrArg)
}

// P1.2: Get tells a number, the lowest bit first, wherever it stands.
func TestGet(t *testing.T) {
	b := api.Bits{B: []byte{0x0d}, N: 4}
	for _, c := range []struct{ at, n, want int }{{0, 4, 13}, {1, 3, 6}, {0, 3, 5}, {3, 1, 1}, {1, 1, 0}, {0, 0, 0}, {4, 0, 0}} {
		if v, err := Get(b, c.at, c.n); v != c.want || err != api.OK {
			t.Errorf("Get(.., %d, %d) = %d, %d, want %d", c.at, c.n, v, err, c.want)
		}
	}
	long := api.Bits{B: []byte{0xff, 0xff, 0xff, 0xff, 0x01}, N: 33}
	if v, err := Get(long, 1, 32); v != api.MaxNum || err != api.OK {
		t.Errorf("Get of 32 bits = %d, %d", v, err)
	}
	if v, err := Get(api.Bits{}, 0, 0); v != 0 || err != api.OK {
		t.Errorf("Get of nothing = %d, %d", v, err)
	}
}

// P1.2: what Get refuses: ErrArg ahead of ErrShort.
func TestGetRefused(t *testing.T) {
	b := api.Bits{B: []byte{0x0d}, N: 4}
	for _, c := range []struct {
		at, n int
		want  api.Errno
	}{
		{2, 3, api.ErrShort}, {4, 1, api.ErrShort}, {0, 5, api.ErrShort}, {0, 32, api.ErrShort}, {4, 32, api.ErrShort},
		{5, 0, api.ErrArg}, {5, 1, api.ErrArg}, {-1, 1, api.ErrArg}, {-1, 32, api.ErrArg}, {0, -1, api.ErrArg}, {0, 33, api.ErrArg}, {4, 33, api.ErrArg},
		{math.MaxInt, 1, api.ErrArg}, {math.MinInt, 1, api.ErrArg}, {0, math.MaxInt, api.ErrArg}, {0, math.MinInt, api.ErrArg}, {math.MaxInt, math.MaxInt, api.ErrArg},
	} {
		if v, err := Get(b, c.at, c.n); v != 0 || err != c.want {
			t.Errorf("Get(.., %d, %d) = %d, %d, want error %d", c.at, c.n, v, err, c.want)
		}
	}
	if v, err := Get(row(some(40, 1)), 8, 33); v != 0 || err != api.ErrArg {
		t.Errorf("Get of 33 bits = %d, %d, want ErrArg", v, err)
	}
	if v, err := Get(row(some(40, 1)), 9, 32); v != 0 || err != api.ErrShort {
		t.Errorf("Get of 32 of 31 bits = %d, %d, want ErrShort", v, err)
	}
}

// P1.3: Turn tells a number's bits the other way about.
func TestTurn(t *testing.T) {
	for _, c := range []struct{ v, n, want int }{{1, 3, 4}, {4, 3, 1}, {6, 3, 3}, {5, 3, 5}, {0, 0, 0}, {1, 1, 1}, {0x16, 5, 0x0d}, {1, 16, 0x8000}, {0xfffe, 16, 0x7fff}, {0xffff, 16, 0xffff}, {0x1234, 16, 0x2c48}} {
		if v, err := Turn(c.v, c.n); v != c.want || err != api.OK {
			t.Errorf("Turn(%x, %d) = %x, %d, want %x", c.v, c.n, v, err, c.want)
		}
	}
	for n := range 17 {
		for _, v := range []int{1 << n, 2 << n, -1, math.MaxInt, math.MinInt} {
			if got, err := Turn(v, n); got != 0 || err != api.ErrArg {
				t.Errorf("Turn(%d, %d) = %d, %d, want ErrArg", v, n, got, err)
			}
		}
	}
	for _, n := range []int{-1, -16, 17, 32, 64, math.MaxInt, math.MinInt} {
		for _, v := range []int{0, 1, -1} {
			if got, err := Turn(v, n); got != 0 || err != api.ErrArg {
				t.Errorf("Turn(%d, %d) = %d, %d, want ErrArg", v, n, got, err)
			}
		}
	}
}

// P1.4: Align lays bits 0 up to a whole byte, and none where it is whole.
func TestAlign(t *testing.T) {
	for n := range 40 {
		l := some(n, 7)
		got, err := Align(row(l))
		if err != api.OK || Check(got) != api.OK {
			t.Errorf("Align of %d bits: %v, error %d", n, got, err)
		}
		for len(l)%8 != 0 {
			l = append(l, 0)
		}
		same(t, "Align", got, row(l))
	}
	got, err := Align(api.Bits{B: []byte{5}, N: 3})
	if err != api.OK {
		t.Errorf("Align of 3 bits: error %d", err)
	}
	same(t, "Align of 3 bits", got, api.Bits{B: []byte{5}, N: 8})
}

// P1.4: Join lays another row's bits behind a row's.
func TestJoin(t *testing.T) {
	got, err := Join(api.Bits{B: []byte{0x0d}, N: 4}, api.Bits{B: []byte{0x35}, N: 6})
	if err != api.OK {
		t.Errorf("Join: error %d", err)
	}
	same(t, "Join", got, api.Bits{B: []byte{0x5d, 0x03}, N: 10})
	whole := api.Bits{B: []byte{0x0d}, N: 4}
	for _, c := range [][2]api.Bits{{whole, {}}, {{}, whole}, {whole, {B: []byte{}}}} {
		got, err := Join(c[0], c[1])
		if err != api.OK {
			t.Errorf("Join with nothing: error %d", err)
		}
		same(t, "Join with nothing", got, whole)
	}
}

// P1.4: Of is the row of bytes.
func TestOf(t *testing.T) {
	same(t, "Of nil", Of(nil), api.Bits{})
	same(t, "Of nothing", Of([]byte{}), api.Bits{})
	b := Of([]byte{0x81, 0x02, 0x00})
	same(t, "Of", b, api.Bits{B: []byte{0x81, 0x02, 0x00}, N: 24})
	if v, err := Get(b, 7, 3); v != 5 || err != api.OK {
		t.Errorf("Get behind Of = %d, %d, want 5", v, err)
	}
}

// P1.5: Get tells what was put, wherever it stands, with whatever ahead and behind.
func TestBack(t *testing.T) {
	for ahead := range 18 {
		for n := range 33 {
			for seed := range uint32(3) {
				v := 0
				for i, x := range some(n, seed+100*uint32(n)) {
					v += int(x) << i
				}
				b := put(t, row(some(ahead, seed)), v, n)
				b = put(t, b, 0x2a, 7)
				if got, err := Get(b, ahead, n); got != v || err != api.OK {
					t.Fatalf("Get(%v, %d, %d) = %d, %d, want %d", b, ahead, n, got, err, v)
				}
				if got, err := Get(b, ahead+n, 7); got != 0x2a || err != api.OK {
					t.Fatalf("Get behind %d bits of %v = %d, %d", n, b, got, err)
				}
			}
		}
	}
}

// P1.6: what is turned twice is as it was; its first bit is the turned one's last.
func TestTwice(t *testing.T) {
	for n := range 17 {
		for v := range 1 << n {
			turned, err := Turn(v, n)
			if err != api.OK {
				t.Fatalf("Turn(%d, %d): error %d", v, n, err)
			}
			again, err := Turn(turned, n)
			if again != v || err != api.OK {
				t.Fatalf("Turn twice of %d in %d = %d, %d", v, n, again, err)
			}
			for k, bit := range digits(v, n) {
				if byte(turned>>(n-1-k)&1) != bit {
					t.Fatalf("Turn(%d, %d) = %d: bit %d", v, n, turned, k)
				}
			}
		}
	}
}

// P1.7: a row is its bits, put one by one; joined rows have all bits of both, in order.
func TestRows(t *testing.T) {
	for n := range 70 {
		l := some(n, uint32(n)+9)
		var b api.Bits
		for _, x := range l {
			b = put(t, b, int(x), 1)
		}
		same(t, "put one by one", b, row(l))
		for m := range 20 {
			more := some(m, uint32(m)+99)
			got, err := Join(b, row(more))
			if err != api.OK || Check(got) != api.OK {
				t.Fatalf("Join of %d and %d bits: error %d", n, m, err)
			}
			same(t, "Join", got, row(append(bytes.Clone(l), more...)))
		}
	}
}

// The rules that hold everywhere: what is handed in stays, behind its end, too, and is not kept by an answer.
func TestApart(t *testing.T) {
	calls := map[string]func(b api.Bits) api.Bits{
		"Put":       func(b api.Bits) api.Bits { r, _ := Put(b, 0x1ffff, 17); return r },
		"Put none":  func(b api.Bits) api.Bits { r, _ := Put(b, 0, 0); return r },
		"Align":     func(b api.Bits) api.Bits { r, _ := Align(b); return r },
		"Join":      func(b api.Bits) api.Bits { r, _ := Join(b, api.Bits{B: []byte{0xff}, N: 8}); return r },
		"Join none": func(b api.Bits) api.Bits { r, _ := Join(b, api.Bits{}); return r },
		"Join to":   func(b api.Bits) api.Bits { r, _ := Join(api.Bits{}, b); return r },
		"Join both": func(b api.Bits) api.Bits { r, _ := Join(b, b); return r },
		"Of":        func(b api.Bits) api.Bits { return Of(b.B) },
	}
	for name, call := range calls {
		for _, n := range []int{13, 16} {
			memory := append(row(some(n, 3)).B, 0xee, 0xee, 0xee, 0xee)
			before := bytes.Clone(memory)
			got := call(api.Bits{B: memory[:2], N: n})
			if !bytes.Equal(memory, before) {
				t.Errorf("%s changed what it was given: %x, was %x", name, memory, before)
			}
			for i := range got.B[:cap(got.B)] {
				got.B[:cap(got.B)][i] ^= 0xff
			}
			if !bytes.Equal(memory, before) {
				t.Errorf("%s: the answer shares memory with what it was given", name)
			}
		}
	}
}
