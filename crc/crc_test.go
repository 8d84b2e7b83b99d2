package crc

import (
	"bytes"
	"hash/crc32"
	"math"
	"testing"

	"valise/api"
)

// some tells n bytes that follow no simple pattern, others for each seed.
func some(n int, seed uint32) []byte {
	var l []byte
	for range n {
		seed = seed*1664525 + 1013904223
		l = append(l, byte(seed>>24))
	}
	return l
}

// numbers are sums to begin with: the edges, single bits, and some without a pattern.
func numbers() []uint32 {
	l := []uint32{0, 1, 2, 3, 0x7fffffff, 0x80000000, 0xfffffffe, 0xffffffff, 0xedb88320, 0xcbf43926}
	for k := range 32 {
		l = append(l, 1<<k)
	}
	seed := uint32(5)
	for range 20 {
		seed = seed*1664525 + 1013904223
		l = append(l, seed)
	}
	return l
}

// steps does so many steps, as the document words one, without help of the package.
func steps(c uint32, n int) uint32 {
	for range n {
		odd := c%2 == 1
		c /= 2
		if odd {
			c ^= 0xedb88320
		}
	}
	return c
}

// worded is the sum as the document words it, without help of the package.
func worded(b []byte) uint32 {
	c := uint32(0xffffffff)
	for _, x := range b {
		c = steps(c^uint32(x), 8)
	}
	return c ^ 0xffffffff
}

// join is Join of what may be joined.
func join(t *testing.T, a, b uint32, n int) uint32 {
	t.Helper()
	got, err := Join(a, b, n)
	if err != api.OK {
		t.Fatalf("Join(%x, %x, %d): error %d", a, b, n, err)
	}
	return got
}

// P2.1: Sum tells the sum of bytes; of none 0.
func TestSum(t *testing.T) {
	for _, c := range []struct {
		b    string
		want uint32
	}{
		{"", 0}, {"123456789", 0xcbf43926}, {"a", 0xe8b7be43}, {"abc", 0x352441c2},
		{"\x00", 0xd202ef8d}, {"\xff", 0xff000000}, {"\x00\x00\x00\x00", 0x2144df1c}, {"\xff\xff\xff\xff", 0xffffffff},
		{"The quick brown fox jumps over the lazy dog", 0x414fa339},
	} {
		if got := Sum([]byte(c.b)); got != c.want {
			t.Errorf("Sum(%q) = %08x, want %08x", c.b, got, c.want)
		}
	}
	if got := Sum(nil); got != 0 {
		t.Errorf("Sum(nil) = %x, want 0", got)
	}
	for x := range 256 {
		if b := []byte{byte(x)}; Sum(b) != worded(b) {
			t.Errorf("Sum(%x) = %08x, want %08x", b, Sum(b), worded(b))
		}
	}
	for n := range 300 {
		if b := some(n, uint32(n)); Sum(b) != worded(b) || Sum(b) != crc32.ChecksumIEEE(b) {
			t.Errorf("Sum of %d bytes = %08x, want %08x", n, Sum(b), worded(b))
		}
	}
	if b := some(api.MaxArchive+1, 1); Sum(b) != crc32.ChecksumIEEE(b) {
		t.Errorf("Sum of %d bytes = %08x, want %08x", len(b), Sum(b), crc32.ChecksumIEEE(b))
	}
}

// P2.1: More goes on from any sum.
func TestMore(t *testing.T) {
	if got := More(Sum([]byte("12345")), []byte("6789")); got != 0xcbf43926 {
		t.Errorf("More(Sum(12345), 6789) = %08x", got)
	}
	for _, sum := range numbers() {
		if More(sum, nil) != sum || More(sum, []byte{}) != sum {
			t.Errorf("More(%x, nothing) = %x, %x", sum, More(sum, nil), More(sum, []byte{}))
		}
		for n := range 20 {
			b := some(n, sum)
			if got, want := More(sum, b), crc32.Update(sum, crc32.IEEETable, b); got != want {
				t.Errorf("More(%x, %x) = %08x, want %08x", sum, b, got, want)
			}
		}
	}
}

// P2.2: Join tells the sum of both rows by their sums.
func TestJoin(t *testing.T) {
	if got := join(t, Sum([]byte("12345")), Sum([]byte("6789")), 4); got != 0xcbf43926 {
		t.Errorf("Join(Sum(12345), Sum(6789), 4) = %08x", got)
	}
	if got := join(t, 1, 0, 1); got != 0x77073096 {
		t.Errorf("Join(1, 0, 1) = %08x", got)
	}
	if got := join(t, 5, 7, 0); got != 2 {
		t.Errorf("Join(5, 7, 0) = %x", got)
	}
	for _, n := range []int{100, 4095, 4096, 65535, 65536, 1 << 20} {
		ahead, behind := some(50, 1), some(n, 2)
		want := crc32.ChecksumIEEE(append(bytes.Clone(ahead), behind...))
		if got := join(t, Sum(ahead), Sum(behind), n); got != want {
			t.Errorf("Join with %d bytes = %08x, want %08x", n, got, want)
		}
	}
}

// P2.2: Join does 8 n steps of a, and xors b, whatever a and b are.
func TestJoinWorded(t *testing.T) {
	for _, a := range numbers() {
		for _, b := range numbers() {
			if got := join(t, a, b, 0); got != a^b {
				t.Errorf("Join(%x, %x, 0) = %x, want %x", a, b, got, a^b)
			}
			if got, want := join(t, a, b, 9), steps(a, 72)^b; got != want {
				t.Errorf("Join(%x, %x, 9) = %x, want %x", a, b, got, want)
			}
		}
		for n := range 70 {
			if got, want := join(t, a, 0x12345678, n), steps(a, 8*n)^0x12345678; got != want {
				t.Errorf("Join(%x, 12345678, %d) = %x, want %x", a, n, got, want)
			}
		}
	}
	for _, n := range []int{1<<16 - 1, 1 << 16, 1<<16 + 1, 1 << 20} {
		if got, want := join(t, 0xcbf43926, 3, n), steps(0xcbf43926, 8*n)^3; got != want {
			t.Errorf("Join(cbf43926, 3, %d) = %x, want %x", n, got, want)
		}
	}
}

// P2.2: the greatest n. 2^32 - 1 steps lead round to where they began, so 2^32 are as good as one.
func TestJoinFar(t *testing.T) {
	for _, a := range numbers() {
		for _, c := range []struct{ n, steps int }{{1 << 29, 1}, {1 << 30, 2}, {1<<29 + 1, 9}, {1<<30 + 1<<29, 3}} {
			if got, want := join(t, a, 7, c.n), steps(a, c.steps)^7; got != want {
				t.Errorf("Join(%x, 7, %d) = %x, want %x", a, c.n, got, want)
			}
		}
		// The most bytes have 2^34 - 8 steps: four short of four rounds.
		if got := join(t, a, 0, math.MaxInt32); steps(got, 4) != a {
			t.Errorf("Join(%x, 0, %d) = %x, and four steps on %x", a, math.MaxInt32, got, steps(got, 4))
		}
	}
}

// P2.2: what Join refuses.
func TestJoinRefused(t *testing.T) {
	for _, n := range []int{-1, -2, -1 << 31, math.MinInt, 1 << 31, 1<<31 + 1, 1 << 32, 1 << 61, math.MaxInt} {
		for _, a := range []uint32{0, 1, 0xffffffff} {
			if got, err := Join(a, 7, n); got != 0 || err != api.ErrArg {
				t.Errorf("Join(%x, 7, %d) = %x, %d, want ErrArg", a, n, got, err)
			}
		}
	}
}

// P2.3: the sum of a whole is More of its beginning's, and Join of both parts'.
func TestParts(t *testing.T) {
	for n := range 80 {
		whole := some(n, uint32(n)+7)
		for cut := range n + 1 {
			ahead, behind := whole[:cut], whole[cut:]
			if got := More(Sum(ahead), behind); got != Sum(whole) {
				t.Errorf("More of %d bytes, cut at %d = %x, want %x", n, cut, got, Sum(whole))
			}
			if got := join(t, Sum(ahead), Sum(behind), len(behind)); got != Sum(whole) {
				t.Errorf("Join of %d bytes, cut at %d = %x, want %x", n, cut, got, Sum(whole))
			}
		}
	}
}

// P2.3: what is joined goes on like any other sum, in whatever order it is joined, at lengths that no list has.
func TestPartsOfParts(t *testing.T) {
	for _, n := range []int{0, 1, 9, 4096, 1 << 28, 1<<30 - 1} {
		for _, m := range []int{0, 1, 5, 65537, 1<<29 + 3, 1 << 30} {
			left := join(t, join(t, 0xcbf43926, 0x1234, n), 0x98765432, m)
			right := join(t, 0xcbf43926, join(t, 0x1234, 0x98765432, m), n+m)
			if left != right {
				t.Errorf("joined with %d and %d bytes: %x and %x", n, m, left, right)
			}
		}
	}
}

// P2.4: the sum of three rows of one length, xor byte by byte, is their sums' xor.
func TestMixed(t *testing.T) {
	for n := range 200 {
		a, b, c := some(n, 1), some(n, uint32(n)+50), bytes.Repeat([]byte{byte(n)}, n)
		mixed := make([]byte, n)
		for i := range mixed {
			mixed[i] = a[i] ^ b[i] ^ c[i]
		}
		if got, want := Sum(mixed), Sum(a)^Sum(b)^Sum(c); got != want {
			t.Errorf("the sum of three rows of %d bytes = %x, want %x", n, got, want)
		}
	}
}

// turn tells bytes with some bits turned: those of burst, from the bit at on.
func turn(b []byte, burst uint64, at int) []byte {
	l := bytes.Clone(b)
	for k := range 64 {
		if burst>>k&1 == 1 {
			l[(at+k)/8] ^= 1 << ((at + k) % 8)
		}
	}
	return l
}

// P2.5: bytes of which 1 to 32 bits in a row are turned have another sum.
func TestBursts(t *testing.T) {
	for _, n := range []int{1, 2, 4, 5, 9, 30} {
		b := some(n, uint32(n))
		for wide := 1; wide <= 32 && wide <= 8*n; wide++ {
			ends := uint64(1) | 1<<(wide-1)
			all := uint64(1)<<wide - 1
			for at := range 8*n - wide + 1 {
				for _, burst := range []uint64{all, ends, ends | all&0x5a3c96e1, ends | all&poly, ends | all&(poly<<1|1)} {
					if Sum(turn(b, burst, at)) == Sum(b) {
						t.Errorf("%d bytes, the bits %x from %d on turned: the same sum %x", n, burst, at, Sum(b))
					}
				}
			}
		}
	}
}

// P2.5: 32 bits are the most: 33 that the sum's own steps make leave it as it is.
func TestBurstBeyond(t *testing.T) {
	// The number that goes over into 0 by its own xor: 1, and behind it poly's bits.
	const beyond = uint64(poly)<<1 | 1
	b := some(9, 3)
	if Sum(turn(b, beyond, 11)) != Sum(b) {
		t.Errorf("the bits %x turned: another sum", beyond)
	}
}

// The rules that hold everywhere: what is handed in stays, and an answer hangs on nothing else.
func TestApart(t *testing.T) {
	memory := some(40, 8)
	before := bytes.Clone(memory)
	sum, more := Sum(memory[:30]), More(9, memory[:30])
	Sum(some(100, 3))
	join(t, 1, 2, 3)
	if !bytes.Equal(memory, before) {
		t.Errorf("what was handed in is changed: %x, was %x", memory, before)
	}
	memory[30] ^= 0xff
	if Sum(memory[:30]) != sum || More(9, memory[:30]) != more {
		t.Error("the same bytes have another sum at another time")
	}
}
