package deflate

import (
	"bytes"
	"compress/flate"
	"io"
	"math"
	"slices"
	"strings"
	"testing"

	"valise/api"
	"valise/header"
	"valise/huff"
	"valise/inflate"
	"valise/limit"
	"valise/match"
	"valise/symbol"
)

// rising tells the next number that follows no simple pattern.
func rising(seed *uint32) int {
	*seed = *seed*1664525 + 1013904223
	return int(*seed >> 8)
}

// mixed tells n bytes of the lowest kinds numbers, in no simple order, others for each seed.
func mixed(n, kinds int, seed uint32) []byte {
	b := make([]byte, n)
	for k := range b {
		b[k] = byte(rising(&seed) >> 4 % kinds)
	}
	return b
}

// lit is a byte, as a token.
func lit(x byte) api.Token { return api.Token{Lit: x} }

// copyOf is a copy.
func copyOf(length, dist int) api.Token { return api.Token{Len: length, Dist: dist} }

// lits tells bytes as tokens that are bytes.
func lits(b []byte) []api.Token {
	var l []api.Token
	for _, x := range b {
		l = append(l, lit(x))
	}
	return l
}

// number16 tells a number as two bytes, the lower one first.
func number16(n int) []byte { return []byte{byte(n), byte(n / 256)} }

// storedAs tells the stream of stored blocks, as chapters 9 and 10 word it.
func storedAs(b []byte) []byte {
	var s []byte
	for k := range len(b)/65535 + 1 {
		block := b[65535*k : min(65535*(k+1), len(b))]
		last := byte(0)
		if k == len(b)/65535 {
			last = 1
		}
		s = slices.Concat(s, []byte{last}, number16(len(block)), number16(65535-len(block)), block)
	}
	return s
}

// sized are the least length, distance of each symbol, and how many bits are beside it, as RFC 1951 has them.
type sized struct{ least, beside int }

// lenSizes are the symbols of lengths, from 257 on.
func lenSizes() []sized {
	return []sized{
		{3, 0}, {4, 0}, {5, 0}, {6, 0}, {7, 0}, {8, 0}, {9, 0}, {10, 0}, {11, 1}, {13, 1}, {15, 1}, {17, 1}, {19, 2}, {23, 2}, {27, 2}, {31, 2},
		{35, 3}, {43, 3}, {51, 3}, {59, 3}, {67, 4}, {83, 4}, {99, 4}, {115, 4}, {131, 5}, {163, 5}, {195, 5}, {227, 5}, {258, 0},
	}
}

// distSizes are the symbols of distances, from 0 on.
func distSizes() []sized {
	return []sized{
		{1, 0}, {2, 0}, {3, 0}, {4, 0}, {5, 1}, {7, 1}, {9, 2}, {13, 2}, {17, 3}, {25, 3}, {33, 4}, {49, 4}, {65, 5}, {97, 5}, {129, 6}, {193, 6}, {257, 7}, {385, 7},
		{513, 8}, {769, 8}, {1025, 9}, {1537, 9}, {2049, 10}, {3073, 10}, {4097, 11}, {6145, 11}, {8193, 12}, {12289, 12}, {16385, 13}, {24577, 13},
	}
}

// placed tells which one of the sizes a number has, the last one that begins with it or ahead of it.
func placed(sizes []sized, n int) int {
	k := len(sizes) - 1
	for sizes[k].least > n {
		k--
	}
	return k
}

// numberText tells a number as n bits, the lowest one first.
func numberText(v, n int) string {
	var s strings.Builder
	for k := range n {
		s.WriteByte('0' + byte(v>>k&1))
	}
	return s.String()
}

// codeText tells a code as n bits, the highest one first.
func codeText(v, n int) string {
	var s strings.Builder
	for k := range n {
		s.WriteByte('0' + byte(v>>(n-1-k)&1))
	}
	return s.String()
}

// fixedText tells the code of a symbol of fixed blocks, as RFC 1951 lists them.
func fixedText(sym int) string {
	switch {
	case sym <= 143:
		return codeText(0b00110000+sym, 8)
	case sym <= 255:
		return codeText(0b110010000+sym-144, 9)
	case sym <= 279:
		return codeText(sym-256, 7)
	}
	return codeText(0b11000000+sym-280, 8)
}

// bytesOf tells the bytes of a text of 0 and 1, with bits 0 up to a whole byte.
func bytesOf(s string) []byte {
	b := make([]byte, (len(s)+7)/8)
	for k := range len(s) {
		b[k/8] |= (s[k] - '0') << (k % 8)
	}
	return b
}

// fixedAs tells the stream of one fixed block, as chapters 9 and 10 word it.
func fixedAs(l []api.Token) []byte {
	lens, dists := lenSizes(), distSizes()
	var s strings.Builder
	s.WriteString("110")
	for _, t := range l {
		if t.Len == 0 {
			s.WriteString(fixedText(int(t.Lit)))
			continue
		}
		length, dist := placed(lens, t.Len), placed(dists, t.Dist)
		s.WriteString(fixedText(257 + length))
		s.WriteString(numberText(t.Len-lens[length].least, lens[length].beside))
		s.WriteString(codeText(dist, 5))
		s.WriteString(numberText(t.Dist-dists[dist].least, dists[dist].beside))
	}
	s.WriteString(fixedText(256))
	return bytesOf(s.String())
}

// expanded tells what tokens tell, which may be.
func expanded(t *testing.T, l []api.Token) []byte {
	t.Helper()
	b, err := match.Expand(l, api.MaxFile)
	if err != api.OK {
		t.Fatalf("the test's tokens may not be: error %d", err)
	}
	return b
}

// elsewhere tells what another program reads of a stream, and how many bytes it has; and whether it is one.
func elsewhere(b []byte) ([]byte, int, bool) {
	left := bytes.NewReader(b)
	told, err := io.ReadAll(flate.NewReader(left))
	if err != nil {
		return nil, 0, false
	}
	return told, len(b) - left.Len(), true
}

// shown tells at most the first hundred of a list, for a test's word.
func shown[E any](l []E) []E { return l[:min(len(l), 100)] }

// tells fails if what is answered is no stream of bytes, or not all of it is one.
func tells(t *testing.T, stream []byte, err api.Errno, want []byte) {
	t.Helper()
	if err != api.OK {
		t.Fatalf("error %d, for %d bytes, from %x on", err, len(want), shown(want))
	}
	got, used, readErr := inflate.Decode(stream, api.MaxFile)
	if !bytes.Equal(got, want) || used != len(stream) || readErr != api.OK {
		t.Fatalf("Decode of %x (%d bytes) = %x (%d bytes), %d, error %d, want %x (%d bytes)", shown(stream), len(stream), shown(got), len(got), used, readErr, shown(want), len(want))
	}
	got, used, ok := elsewhere(stream)
	if !bytes.Equal(got, want) || used != len(stream) || !ok {
		t.Fatalf("elsewhere %x (%d bytes) is %x (%d bytes), %d, %t, want %x (%d bytes)", shown(stream), len(stream), shown(got), len(got), used, ok, shown(want), len(want))
	}
}

// is fails if what is answered is not just a stream.
func is(t *testing.T, stream []byte, err api.Errno, want []byte) {
	t.Helper()
	if !bytes.Equal(stream, want) || err != api.OK {
		t.Fatalf("%x (%d bytes), error %d, want %x (%d bytes)", shown(stream), len(stream), err, shown(want), len(want))
	}
}

// refused fails if what is answered is not just an error.
func refused(t *testing.T, stream []byte, err, want api.Errno) {
	t.Helper()
	if stream != nil || err != want {
		t.Fatalf("%x (%d bytes), error %d, want error %d", shown(stream), len(stream), err, want)
	}
}

// oneDynamic fails if a stream does not begin with a dynamic block that is the last one.
func oneDynamic(t *testing.T, stream []byte) {
	t.Helper()
	if len(stream) == 0 || stream[0]&7 != 0b101 {
		t.Fatalf("%x begins with no dynamic block that is the last one", shown(stream))
	}
}

// packed fails if Fixed and Dynamic of tokens are not what they are to be.
func packed(t *testing.T, l []api.Token) {
	t.Helper()
	want := expanded(t, l)
	stream, err := Fixed(l)
	is(t, stream, err, fixedAs(l))
	tells(t, stream, err, want)
	stream, err = Dynamic(l)
	tells(t, stream, err, want)
	oneDynamic(t, stream)
	if most := dynamicMost(t, l); len(stream) > most {
		t.Fatalf("Dynamic of %v.. has %d bytes, of the best codes it needs %d", shown(l), len(stream), most)
	}
}

// dynamicMost tells how many bytes a dynamic block needs whose codes are the best ones, all of their lengths laid.
func dynamicMost(t *testing.T, l []api.Token) int {
	t.Helper()
	lit, dist, beside := make([]int, api.MaxLit), make([]int, api.MaxDist), 0
	lit[256]++
	for _, tok := range l {
		if tok.Len == 0 {
			lit[tok.Lit]++
			continue
		}
		length, far := placed(lenSizes(), tok.Len), placed(distSizes(), tok.Dist)
		lit[257+length]++
		dist[far]++
		beside += lenSizes()[length].beside + distSizes()[far].beside
	}
	litLens, err1 := limit.Lengths(lit, api.MaxCode)
	distLens, err2 := limit.Lengths(dist, api.MaxCode)
	litCost, err3 := limit.Cost(lit, litLens)
	distCost, err4 := limit.Cost(dist, distLens)
	head, err5 := header.Put(api.Bits{}, litLens, distLens)
	if err := max(err1, err2, err3, err4, err5); err != api.OK {
		t.Fatalf("the test's codes: error %d", err)
	}
	return (3 + head.N + litCost + distCost + beside + 7) / 8
}

// anyTokens tells up to n tokens that may be, of bytes of some kinds, and copies as often as told, in no simple order.
func anyTokens(seed *uint32, n int) []api.Token {
	kinds, copies, far := rising(seed)%256+1, rising(seed)%4, rising(seed)%3
	size := 0
	var l []api.Token
	for range rising(seed) % n {
		t := lit(byte(rising(seed) % kinds))
		if size > 0 && rising(seed)%4 < copies {
			dist := rising(seed)%min(size, 32768) + 1
			if far == 0 {
				dist = min(dist, 4)
			}
			t = copyOf(3+rising(seed)%256>>(rising(seed)%8), dist)
		}
		if size += max(t.Len, 1); size > api.MaxFile {
			break
		}
		l = append(l, t)
	}
	return l
}

// samples are bytes of some kinds, up to as many as may be.
func samples() [][]byte {
	far := mixed(32768, 256, 4)
	l := [][]byte{nil, {}, {0}, {255}, []byte("abcabcabc"), []byte(strings.Repeat("what is packed is unpacked as it was. ", 300)), append(far, far...)}
	for k, kinds := range []int{1, 2, 3, 4, 16, 100, 256} {
		for _, n := range []int{2, 10, 100, 5000, 65534, 65535, 65536} {
			l = append(l, mixed(n, kinds, uint32(k)))
		}
	}
	return append(l, slices.Concat(mixed(3000, 256, 5), bytes.Repeat([]byte{9}, 3000), mixed(3000, 5, 6), []byte(strings.Repeat("0123456789", 300))))
}

// The chapter's examples.
func TestExamples(t *testing.T) {
	stream, err := Stored([]byte("abc"))
	is(t, stream, err, []byte{1, 3, 0, 0xfc, 0xff, 'a', 'b', 'c'})
	stream, err = Stored(nil)
	is(t, stream, err, []byte{1, 0, 0, 0xff, 0xff})
	stream, err = Fixed([]api.Token{lit('a')})
	is(t, stream, err, []byte{0x4b, 4, 0})
	stream, err = Fixed(nil)
	is(t, stream, err, []byte{3, 0})
	stream, err = Fixed([]api.Token{copyOf(3, 1)})
	refused(t, stream, err, api.ErrDist)
	stream, err = Encode(nil, 1)
	tells(t, stream, err, nil)
	if len(stream) > 5 {
		t.Errorf("Encode of nothing has %d bytes", len(stream))
	}
	// The document's second example of the whole.
	stream, err = Encode(bytes.Repeat([]byte{'x'}, 1000), 1)
	if tells(t, stream, err, bytes.Repeat([]byte{'x'}, 1000)); len(stream) > 34 {
		t.Errorf("a thousand bytes all alike have %d bytes", len(stream))
	}
}

// P10.1: blocks of 65535 bytes each, and one of what is left.
func TestStored(t *testing.T) {
	for _, b := range samples() {
		stream, err := Stored(b)
		is(t, stream, err, storedAs(b))
	}
	for n := range 600 {
		b := mixed(n, 256, uint32(n))
		stream, err := Stored(b)
		is(t, stream, err, storedAs(b))
	}
	for _, c := range []struct{ n, size int }{{0, 5}, {1, 6}, {256, 261}, {65534, 65539}, {65535, 65545}, {65536, 65546}} {
		stream, err := Stored(make([]byte, c.n))
		if len(stream) != c.size || err != api.OK {
			t.Errorf("Stored of %d bytes has %d bytes, error %d", c.n, len(stream), err)
		}
	}
}

// P10.1: the last block alone is said to be the last one.
func TestStoredLast(t *testing.T) {
	for _, n := range []int{65535, 65536} {
		stream, _ := Stored(bytes.Repeat([]byte{0xff}, n))
		if stream[0] != 0 || stream[5+65535] != 1 {
			t.Errorf("the blocks of %d bytes begin with %x and %x", n, stream[0], stream[5+65535])
		}
	}
}

// P10.1, P10.4: more bytes than may be, whatever the depth is.
func TestTooLarge(t *testing.T) {
	for _, n := range []int{65537, 65538, 131070, 1 << 20} {
		for _, b := range [][]byte{make([]byte, n), mixed(n, 256, 1)} {
			stream, err := Stored(b)
			refused(t, stream, err, api.ErrTooLarge)
			for _, depth := range []int{math.MinInt, -1, 0, 1, 32, 4096, 4097, math.MaxInt} {
				stream, err = Encode(b, depth)
				refused(t, stream, err, api.ErrTooLarge)
			}
		}
	}
}

// P10.4: what the depth may be.
func TestDepth(t *testing.T) {
	for _, b := range [][]byte{nil, {}, {1}, []byte("abcabcabc"), make([]byte, 65536)} {
		for _, depth := range []int{math.MinInt, -4096, -1, 0, 4097, 4098, 1 << 32, math.MaxInt} {
			stream, err := Encode(b, depth)
			refused(t, stream, err, api.ErrArg)
		}
		for _, depth := range []int{1, 2, 100, 4095, 4096} {
			stream, err := Encode(b, depth)
			tells(t, stream, err, b)
		}
	}
}

// P10.2, P10.3: the errors of tokens, of which the first one in their order counts.
func TestTokensRefused(t *testing.T) {
	whole := slices.Repeat([]api.Token{lit(7), copyOf(255, 1)}, 256)
	for _, c := range []struct {
		l    []api.Token
		want api.Errno
	}{
		{[]api.Token{{Len: 2, Dist: 1}}, api.ErrArg},
		{[]api.Token{{Len: 3}}, api.ErrArg},
		{[]api.Token{{Dist: 1}}, api.ErrArg},
		{[]api.Token{lit(1), {Len: 259, Dist: 1}}, api.ErrArg},
		{[]api.Token{lit(1), {Len: 3, Dist: 1, Lit: 1}}, api.ErrArg},
		{[]api.Token{lit(1), {Len: 3, Dist: 32769}}, api.ErrArg},
		{[]api.Token{lit(1), {Len: -3, Dist: 1}}, api.ErrArg},
		{[]api.Token{lit(1), {Len: 3, Dist: -1}}, api.ErrArg},
		{[]api.Token{lit(1), {Len: math.MaxInt, Dist: math.MinInt}}, api.ErrArg},
		{[]api.Token{copyOf(3, 1)}, api.ErrDist},
		{[]api.Token{lit(1), copyOf(3, 2)}, api.ErrDist},
		{[]api.Token{lit(1), copyOf(3, 1), copyOf(3, 5)}, api.ErrDist},
		{[]api.Token{copyOf(3, 1), {Len: 2, Dist: 1}}, api.ErrDist},
		{[]api.Token{{Len: 2, Dist: 1}, copyOf(3, 1)}, api.ErrArg},
		{append(slices.Clone(whole), lit(1)), api.ErrTooLarge},
		{append(slices.Clone(whole), copyOf(3, 1)), api.ErrTooLarge},
		{append(slices.Clone(whole), copyOf(2, 1), lit(1)), api.ErrArg},
		{append(slices.Clone(whole[:511]), copyOf(256, 1)), api.ErrTooLarge},
		{lits(make([]byte, 65537)), api.ErrTooLarge},
		{append(lits(make([]byte, 65537)), copyOf(2, 1)), api.ErrTooLarge},
	} {
		stream, err := Fixed(c.l)
		refused(t, stream, err, c.want)
		stream, err = Dynamic(c.l)
		refused(t, stream, err, c.want)
	}
	packed(t, whole)
	packed(t, lits(make([]byte, 65536)))
}

// P10.2, P10.3: each byte, each length, and each distance's first and last ones are told by their symbols.
func TestEach(t *testing.T) {
	packed(t, nil)
	packed(t, []api.Token{})
	for x := range 256 {
		packed(t, []api.Token{lit(byte(x))})
		packed(t, []api.Token{lit(byte(x)), lit(byte(x ^ 1)), copyOf(3, 2)})
	}
	for n := 3; n <= 258; n++ {
		packed(t, []api.Token{lit(byte(n)), copyOf(n, 1)})
	}
	ahead := []api.Token{lit(1), lit(2)}
	for size := 2; size < 32768; size += 258 {
		ahead = append(ahead, copyOf(258, 2))
	}
	for _, s := range distSizes() {
		for _, dist := range []int{s.least, s.least + 1<<s.beside/2, s.least + 1<<s.beside - 1} {
			packed(t, append(slices.Clone(ahead), copyOf(3, dist)))
			packed(t, append(slices.Clone(ahead), copyOf(3, dist), lit(9), copyOf(4, dist), copyOf(258, 32768)))
		}
	}
}

// P10.3: a header says no lengths behind the last symbol that is used.
func TestDynamicHeader(t *testing.T) {
	for _, c := range []struct {
		l         []api.Token
		lit, dist int
	}{
		{nil, 257, 1},
		{[]api.Token{lit(7), lit(255)}, 257, 1},
		{[]api.Token{lit(7), copyOf(3, 1)}, 258, 1},
		{[]api.Token{lit(7), copyOf(3, 1), copyOf(4, 4)}, 259, 4},
		{[]api.Token{lit(7), copyOf(257, 1), copyOf(4, 258)}, 285, 17},
		{[]api.Token{lit(7), copyOf(258, 1)}, 286, 1},
	} {
		stream, err := Dynamic(c.l)
		tells(t, stream, err, expanded(t, c.l))
		lit, dist, _, err := header.Read(api.Bits{B: stream, N: 8 * len(stream)}, 3)
		if len(lit) != c.lit || len(dist) != c.dist || err != api.OK {
			t.Errorf("Dynamic of %v says %d and %d lengths, error %d, want %d and %d", c.l, len(lit), len(dist), err, c.lit, c.dist)
		}
	}
}

// P10.2, P10.3: all symbols of both codes in one block.
func TestAllSymbols(t *testing.T) {
	l := lits(mixed(40000, 256, 3))
	for x := range 256 {
		l = append(l, lit(byte(x)))
	}
	for _, s := range lenSizes() {
		l = append(l, copyOf(s.least, 1))
	}
	for _, s := range distSizes() {
		l = append(l, copyOf(3, s.least))
	}
	packed(t, l)
	slices.Reverse(l[40000:])
	packed(t, l)
}

// P10.3: bytes so uneven that the best codes would be longer than may be.
func TestUneven(t *testing.T) {
	var l []api.Token
	a, b := 1, 1
	for x := byte(0); len(l)+a <= api.MaxFile; x++ {
		l = append(l, slices.Repeat([]api.Token{lit(x)}, a)...)
		a, b = b, a+b
	}
	packed(t, l)
	slices.Reverse(l)
	packed(t, l)
	// The same of distances.
	l = lits(mixed(40000, 256, 3))
	a, b = 1, 1
	for k := 0; a < 4000; k++ {
		l = append(l, slices.Repeat([]api.Token{copyOf(3, distSizes()[k].least)}, a)...)
		a, b = b, a+b
	}
	packed(t, l[:min(len(l), 40000+8000)])
}

// P10.2, P10.3, P10.5: tokens in no simple order.
func TestAnyTokens(t *testing.T) {
	for seed := range uint32(400) {
		s := seed
		packed(t, anyTokens(&s, 300))
	}
	for seed := range uint32(8) {
		s := seed + 1000
		packed(t, anyTokens(&s, 70000))
	}
}

// P10.2, P10.3: of any tokens the error is match.Expand's.
func TestAnyRefused(t *testing.T) {
	seen := map[api.Errno]int{}
	for seed := range uint32(3000) {
		s := seed
		l := anyTokens(&s, 30)
		for range rising(&s)%3 + 1 {
			bad := api.Token{Len: rising(&s)%264 - 2, Dist: rising(&s)%40 - 2, Lit: byte(rising(&s) % 8 / 7)}
			l = slices.Insert(l, rising(&s)%(len(l)+1), bad)
		}
		_, want := match.Expand(l, api.MaxFile)
		seen[want]++
		if want == api.OK {
			packed(t, l)
			continue
		}
		stream, err := Fixed(l)
		refused(t, stream, err, want)
		stream, err = Dynamic(l)
		refused(t, stream, err, want)
	}
	for _, err := range []api.Errno{api.OK, api.ErrArg, api.ErrDist} {
		if seen[err] < 50 {
			t.Errorf("error %d came %d times alone", err, seen[err])
		}
	}
}

// alikeTokens tells tokens of up to n bytes all alike, in no simple order.
func alikeTokens(seed *uint32, n int) []api.Token {
	x, copies, size := byte(rising(seed)), rising(seed)%5, 0
	var l []api.Token
	for size < n {
		t := lit(x)
		if size > 0 && rising(seed)%4 < copies {
			s := distSizes()[rising(seed)%30]
			length := lenSizes()[rising(seed)%29]
			t = copyOf(min(length.least+rising(seed)%(1<<length.beside), 258), min(s.least+rising(seed)%(1<<s.beside), size))
		}
		if size += max(t.Len, 1); size > api.MaxFile {
			break
		}
		l = append(l, t)
	}
	return l
}

// P10.3: of bytes all alike Dynamic needs no more than Fixed and 80 bytes, whatever tokens tell them.
func TestDynamicAlike(t *testing.T) {
	near := func(l []api.Token) {
		t.Helper()
		fixed, err := Fixed(l)
		tells(t, fixed, err, expanded(t, l))
		dynamic, err := Dynamic(l)
		if tells(t, dynamic, err, expanded(t, l)); len(dynamic) > len(fixed)+80 {
			t.Fatalf("Dynamic of %v.. has %d bytes, Fixed %d", shown(l), len(dynamic), len(fixed))
		}
	}
	for n := range 300 {
		near(slices.Repeat([]api.Token{lit(byte(n))}, n))
	}
	for seed := range uint32(300) {
		s := seed
		near(alikeTokens(&s, 1<<(seed%16)))
	}
	near(nil)
	near(lits(make([]byte, api.MaxFile)))
	// All lengths and distances, from even to uneven.
	for step := range 5 {
		l := append([]api.Token{lit(100)}, slices.Repeat([]api.Token{copyOf(258, 1)}, 100)...)
		for k, s := range distSizes() {
			l = append(l, slices.Repeat([]api.Token{copyOf(3, s.least)}, 1<<(k*step/16))...)
		}
		for k, s := range lenSizes() {
			l = append(l, slices.Repeat([]api.Token{copyOf(s.least, 1)}, 1<<((28-k)*step/16))...)
		}
		near(l)
	}
}

// P10.4: n bytes all alike.
func TestEncodeAlike(t *testing.T) {
	short := func(n int, x byte, depth int) {
		t.Helper()
		b := bytes.Repeat([]byte{x}, n)
		stream, err := Encode(b, depth)
		if tells(t, stream, err, b); len(stream) > 24+n/100 {
			t.Fatalf("Encode of %d bytes %d has %d bytes", n, x, len(stream))
		}
	}
	for n := range 1100 {
		short(n, byte(n*7), n%4096+1)
	}
	for n := 1100; n <= api.MaxFile; n += 1789 {
		short(n, byte(n), 1)
		short(n, 255, 4096)
	}
	for _, n := range []int{65534, 65535, 65536} {
		for _, x := range []byte{0, 100, 143, 144, 255} {
			short(n, x, 16)
		}
	}
}

// P10.4, P10.5: a stream that tells the bytes, no longer than Stored's.
func TestEncode(t *testing.T) {
	small := func(b []byte, depth int) {
		t.Helper()
		stored, _ := Stored(b)
		stream, err := Encode(b, depth)
		if tells(t, stream, err, b); len(stream) > len(stored) {
			t.Fatalf("Encode of %d bytes has %d bytes, Stored %d", len(b), len(stream), len(stored))
		}
	}
	for _, b := range samples() {
		small(b, 1)
		small(b, 64)
	}
	for n := range 400 {
		for _, kinds := range []int{2, 20, 256} {
			small(mixed(n, kinds, uint32(n)), n%50+1)
		}
	}
}

// P10.1, P10.5: what is stored is read.
func TestStoredBack(t *testing.T) {
	for _, b := range samples() {
		stream, err := Stored(b)
		tells(t, stream, err, b)
	}
}

// P10.4: whichever way is the shortest is taken, and no copies where they take more than they save.
func TestEncodeShortest(t *testing.T) {
	const stored, fixed, dynamic = 1, 3, 5
	for _, c := range []struct {
		b    []byte
		kind byte
	}{
		{nil, fixed},
		{[]byte("a"), fixed},
		{[]byte("abcabcabcabc"), fixed},
		{mixed(300, 256, 1), stored},
		{mixed(5000, 256, 2), stored},
		{mixed(5000, 3, 3), dynamic},
		{[]byte(strings.Repeat("what is packed is unpacked as it was. ", 30)), fixed},
		{slices.Concat(mixed(3000, 4, 4), []byte(strings.Repeat("what is packed is unpacked as it was. ", 30))), dynamic},
	} {
		stream, err := Encode(c.b, 32)
		if tells(t, stream, err, c.b); stream[0]&7 != c.kind {
			t.Errorf("Encode of %q.. is %x..", shown(c.b), shown(stream))
		}
		for _, l := range [][]api.Token{lits(c.b), found(t, c.b, 32)} {
			f, _ := Fixed(l)
			d, _ := Dynamic(l)
			if len(stream) > min(len(f), len(d)) {
				t.Errorf("Encode of %q.. has %d bytes, Fixed %d, Dynamic %d", shown(c.b), len(stream), len(f), len(d))
			}
		}
	}
	// 15 kinds of bytes in no order need 4 bits each, with the end; copies of 3 bytes are found all over, and need more.
	stream, _ := Encode(mixed(60000, 15, 9), 4096)
	if len(stream) > 30100 {
		t.Errorf("60000 bytes of 4 bits each have %d bytes", len(stream))
	}
}

// found tells what Find does.
func found(t *testing.T, b []byte, depth int) []api.Token {
	t.Helper()
	l, err := match.Find(b, depth)
	if err != api.OK {
		t.Fatalf("Find: error %d", err)
	}
	return l
}

// The rules that hold everywhere: the same is answered to the same, nil and the empty list are the same.
func TestSame(t *testing.T) {
	for seed := range uint32(30) {
		s := seed
		l := anyTokens(&s, 200)
		b := expanded(t, l)
		calls := []func() ([]byte, api.Errno){
			func() ([]byte, api.Errno) { return Stored(b) },
			func() ([]byte, api.Errno) { return Fixed(l) },
			func() ([]byte, api.Errno) { return Dynamic(l) },
			func() ([]byte, api.Errno) { return Encode(b, 9) },
		}
		for _, call := range calls {
			want, _ := call()
			for range 3 {
				got, err := call()
				is(t, got, err, want)
			}
		}
	}
	empty, _ := Dynamic([]api.Token{})
	none, err := Dynamic(nil)
	is(t, none, err, empty)
	empty, _ = Encode([]byte{}, 3)
	none, err = Encode(nil, 3)
	is(t, none, err, empty)
}

// The rules that hold everywhere: what is handed in stays, behind its end, too; no two answers share memory, and none with what is handed in.
func TestShared(t *testing.T) {
	memory := []byte(strings.Repeat("abcabcabd", 20))
	tokens := append(found(t, memory[:90], 5), slices.Repeat([]api.Token{lit(0x55)}, 50)...)
	memoryBefore, tokensBefore := slices.Clone(memory), slices.Clone(tokens)
	b, l := memory[:90], tokens[:len(tokens)-50]
	// Noise is stored by Encode, too.
	noise := mixed(200, 256, 1)
	noiseBefore := slices.Clone(noise)
	calls := []func() ([]byte, api.Errno){
		func() ([]byte, api.Errno) { return Stored(b) },
		func() ([]byte, api.Errno) { return Fixed(l) },
		func() ([]byte, api.Errno) { return Dynamic(l) },
		func() ([]byte, api.Errno) { return Encode(b, 9) },
		func() ([]byte, api.Errno) { return Encode(noise[:100], 9) },
	}
	for _, call := range calls {
		first, _ := call()
		want := slices.Clone(first)
		second, _ := call()
		for k := range second[:cap(second)] {
			second[:cap(second)][k] = 0xaa
		}
		if !bytes.Equal(first, want) {
			t.Error("two answers share memory")
		}
		if !bytes.Equal(memory, memoryBefore) || !slices.Equal(tokens, tokensBefore) || !bytes.Equal(noise, noiseBefore) {
			t.Fatal("what was handed in is another one")
		}
	}
}

// The first error that a layer is told ends a stream, whatever is laid ahead and behind.
func TestFault(t *testing.T) {
	for _, write := range []func(lay layer){
		func(lay layer) { lay(api.Bits{}, api.ErrSum); lay(number(1, 1)); lay(api.Bits{}, api.ErrNone) },
		func(lay layer) { lay(number(1, 1)); lay(api.Bits{}, api.ErrSum); lay(number(2, 1)) },
	} {
		told, err := stream(write)
		refused(t, told, err, api.ErrSum)
	}
	whole, lone := slices.Repeat([]int{5}, 32), []int{1, 1, 1}
	for _, c := range []struct {
		write func(lay layer)
		want  api.Errno
	}{
		{func(lay layer) { lay(number(2, 1)) }, api.ErrArg},
		{func(lay layer) { lay(api.Bits{N: 1}, api.OK) }, api.ErrArg},
		{func(lay layer) { lay(codes(lone)(0)) }, api.ErrOver},
		{func(lay layer) { scaled(lay, codes(whole), 0, symbol.Dist, symbol.DistBits) }, api.ErrArg},
		{func(lay layer) { scaled(lay, codes(lone), 1, symbol.Dist, symbol.DistBits) }, api.ErrOver},
		{func(lay layer) { scaled(lay, codes(whole), 1, symbol.Dist, symbol.LenBits) }, api.ErrCode},
	} {
		told, err := stream(c.write)
		refused(t, told, err, c.want)
	}
}

// A symbol's code is a row of its own, the highest bit first; rows stand bit by bit behind each other.
func TestLaid(t *testing.T) {
	lens := []int{2, 1, 3, 3}
	told, err := stream(func(lay layer) {
		for range 5 {
			for sym := range lens {
				lay(codes(lens)(sym))
			}
		}
	})
	is(t, told, err, bytesOf(strings.Repeat("100110111", 5)))
	if huff.Check(lens) != api.OK || huff.Check(fixedLit()) != api.OK || huff.Check(fixedDist()) != api.OK {
		t.Error("the codes are not whole")
	}
}

// Of several lists that are as short the first one is told.
func TestShortest(t *testing.T) {
	for _, c := range []struct {
		lists [][]int
		want  int
	}{
		{[][]int{{1}}, 1}, {[][]int{{1, 0}, {2}}, 2}, {[][]int{{1}, {2, 0}}, 1}, {[][]int{{1}, {2}}, 1}, {[][]int{{1, 0}, {2}, {3}}, 2},
	} {
		if got := shortest(c.lists...); got[0] != c.want {
			t.Errorf("shortest of %v = %v", c.lists, got)
		}
	}
}

// How often symbols come is counted over all lists.
func TestTally(t *testing.T) {
	if got := tally(4, []int{1, 1, 3}, nil, []int{3, 0, 1}); !slices.Equal(got, []int{1, 3, 0, 2}) {
		t.Errorf("tally = %v", got)
	}
	if got := tally(2); !slices.Equal(got, []int{0, 0}) {
		t.Errorf("tally of nothing = %v", got)
	}
}
