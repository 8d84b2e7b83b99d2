package inflate

import (
	"bytes"
	"compress/flate"
	"math"
	"slices"
	"strings"
	"testing"

	"valise/api"
)

// The chapter's examples.
func TestExamples(t *testing.T) {
	answers(t, []byte{1, 3, 0, 0xfc, 0xff, 'a', 'b', 'c'}, api.MaxFile, []byte("abc"), 8, api.OK)
	answers(t, []byte{3, 0}, api.MaxFile, nil, 2, api.OK)
	answers(t, []byte{0x4b, 4, 0}, api.MaxFile, []byte("a"), 3, api.OK)
	answers(t, []byte{7}, api.MaxFile, nil, 0, api.ErrCode)
	answers(t, nil, api.MaxFile, nil, 0, api.ErrShort)
	answers(t, []byte{1, 3, 0, 0xfd, 0xff, 'a', 'b', 'c'}, api.MaxFile, nil, 0, api.ErrSum)
}

// P9.1: what most may be.
func TestMostArg(t *testing.T) {
	l := [][]byte{nil, {}, {7}, {3, 0}, {0x4b, 4, 0}, {1, 3, 0, 0xfc, 0xff, 'a', 'b', 'c'}, {1, 3, 0, 0xfd, 0xff}}
	for _, b := range l {
		for _, most := range []int{-1, -2, -65536, math.MinInt, api.MaxFile + 1, api.MaxFile + 2, 1 << 20, 1 << 32, math.MaxInt} {
			answers(t, b, most, nil, 0, api.ErrArg)
		}
	}
	for _, most := range []int{0, 1, api.MaxFile - 1, api.MaxFile} {
		answers(t, []byte{3, 0}, most, nil, 2, api.OK)
		answers(t, nil, most, nil, 0, api.ErrShort)
		answers(t, []byte{6}, most, nil, 0, api.ErrCode)
	}
}

// P9.1: a block of the kind 3, wherever it stands.
func TestKind(t *testing.T) {
	for _, last := range []bool{false, true} {
		s := begun(last, 3)
		ends(t, s, api.ErrCode)
		refused(t, s, 0, api.ErrCode)
		refused(t, stored("", false, []byte("abc"))+s, 3, api.ErrCode)
	}
	for b := range 256 {
		switch {
		case b>>1&3 == 3:
			answers(t, []byte{byte(b)}, 1, nil, 0, api.ErrCode)
			answers(t, []byte{byte(b), 0, 0, 255, 255}, 1, nil, 0, api.ErrCode)
		default:
			answers(t, []byte{byte(b)}, 1, nil, 0, api.ErrShort)
		}
	}
}

// P9.1: the bits that say whether a block is the last one, and its kind, are not there.
func TestShortKind(t *testing.T) {
	for _, s := range []string{"", "0", "1", "00", "01", "10", "11"} {
		short(t, s)
	}
	refused(t, stored("", false, []byte("abc")), api.MaxFile, api.ErrShort)
	answers(t, []byte{}, 0, nil, 0, api.ErrShort)
}

// P9.1: stored blocks, wherever in a byte they begin, whatever stands up to a whole byte.
func TestStored(t *testing.T) {
	for _, n := range []int{0, 1, 2, 3, 255, 256, 257, 4095} {
		data := mixed(n, 256, uint32(n))
		tells(t, stored("", true, data), data)
		tells(t, stored(stored("", false, data), true, data), append(slices.Clone(data), data...))
		for k := range 9 {
			ahead := bytes.Repeat([]byte{200}, k)
			s := fixed(false, lits(ahead)...)
			tells(t, stored(s, true, data), append(ahead, data...))
		}
	}
	for _, n := range []int{65534, 65535} {
		data := mixed(n, 256, uint32(n))
		tells(t, stored("", true, data), data)
		tells(t, stored(stored("", false, data), true, data[:65536-n]), append(data, data[:65536-n]...))
	}
}

// P9.1: the bits up to a whole byte count for nothing.
func TestStoredSpare(t *testing.T) {
	for spare := range 32 {
		answers(t, []byte{byte(1 | spare<<3), 2, 0, 0xfd, 0xff, 'x', 'y'}, 2, []byte("xy"), 7, api.OK)
		answers(t, []byte{byte(spare << 3), 0, 0, 0xff, 0xff, 1, 1, 0, 0xfe, 0xff, 'y'}, 1, []byte("y"), 11, api.OK)
	}
	for k := range 9 {
		data := bytes.Repeat([]byte{200}, k)
		s := fixed(false, lits(data)...) + begun(true, 0)
		for len(s)%8 != 0 {
			s += "1"
		}
		tells(t, s+number(1, 16)+number(65534, 16)+number(9, 8), append(data, 9))
	}
}

// P9.1: a stored block's second number is not the first one turned; this comes ahead of bytes that are too many or are not there.
func TestStoredSum(t *testing.T) {
	for _, n := range []int{0, 1, 3, 255, 256, 65535} {
		for bit := range 16 {
			s := begun(true, 0) + "00000" + number(n, 16) + number((65535-n)^1<<bit, 16)
			for _, most := range []int{0, 1, api.MaxFile} {
				refused(t, s, most, api.ErrSum)
				refused(t, s+text(mixed(n, 256, 1)), most, api.ErrSum)
			}
			refused(t, s[:len(s)-8], api.MaxFile, api.ErrShort)
		}
		refused(t, begun(true, 0)+"00000"+number(n, 16)+number(n, 16), api.MaxFile, api.ErrSum)
		refused(t, begun(true, 0)+"00000"+number(n, 16)+number(65536-n, 16), api.MaxFile, api.ErrSum)
	}
}

// P9.1: of a stored block first its numbers are asked, then whether its bytes are too many, then whether they are there.
func TestStoredOrder(t *testing.T) {
	data := []byte("abcde")
	s := stored("", true, data)
	for n := range 5 {
		refused(t, s[:8*n], 0, api.ErrShort)
		refused(t, s[:8*n], api.MaxFile, api.ErrShort)
	}
	for n := 5; n <= 10; n++ {
		for most := range 5 {
			refused(t, s[:8*n], most, api.ErrTooLarge)
		}
		if n < 10 {
			refused(t, s[:8*n], 5, api.ErrShort)
			refused(t, s[:8*n], api.MaxFile, api.ErrShort)
		}
	}
	answers(t, bytesOf(s), 5, data, 10, api.OK)
	two := stored(fixed(false, lit(200), lit(201)), true, data)
	for most := 2; most < 7; most++ {
		refused(t, two, most, api.ErrTooLarge)
		refused(t, two[:len(two)-40], most, api.ErrTooLarge)
	}
	refused(t, two[:len(two)-40], 7, api.ErrShort)
	answers(t, bytesOf(two), 7, append([]byte{200, 201}, data...), len(two)/8, api.OK)
	most := stored("", false, mixed(65535, 256, 1))
	refused(t, stored(most, true, data[:2]), api.MaxFile, api.ErrTooLarge)
	refused(t, stored(most, true, data[:2])[:len(most)+40], api.MaxFile, api.ErrTooLarge)
	answers(t, bytesOf(stored(most, true, data[:1])), api.MaxFile, append(mixed(65535, 256, 1), 'a'), 65540+6, api.OK)
}

// P9.1: each byte in a fixed block.
func TestFixedBytes(t *testing.T) {
	var all []byte
	for x := range 256 {
		tells(t, fixed(true, lit(byte(x))), []byte{byte(x)})
		short(t, opened(true, lit(byte(x))))
		all = append(all, byte(x))
	}
	tells(t, fixed(true, lits(all)...), all)
	tells(t, fixed(true), nil)
	tells(t, fixed(false)+fixed(false)+fixed(true), nil)
}

// P9.1: each length in a fixed block, and 258 as the symbol 284 and 31, too.
func TestFixedLengths(t *testing.T) {
	for n := api.MinMatch; n <= api.MaxMatch; n++ {
		tells(t, fixed(true, lit('x'), copyOf(n, 1)), bytes.Repeat([]byte{'x'}, n+1))
		whole := opened(true, lit('x'), copyOf(n, 1))
		for left := 1; left <= 5; left++ {
			short(t, whole[:len(whole)-left])
		}
		size := lenSizes()[placed(lenSizes(), n)]
		for left := range size.beside {
			short(t, whole[:len(whole)-5-size.beside+left])
		}
	}
	codes := codesOf(litLens())
	long := opened(true, lit('x')) + codes[284] + number(31, 5) + number(0, 5) + codes[256]
	tells(t, long, bytes.Repeat([]byte{'x'}, 259))
}

// P9.1: distances of each symbol in a fixed block, its least, its greatest and some more, over what stored blocks told.
func TestFixedDistances(t *testing.T) {
	data := mixed(32768, 256, 5)
	lit, dist := codesOf(litLens()), codesOf(many(32, 5))
	for sym, size := range distSizes() {
		for _, v := range []int{0, 1, 2, 1 << size.beside / 3, 1<<size.beside - 2, 1<<size.beside - 1} {
			if v >= 0 && v < 1<<size.beside {
				far(t, data, size.least+v, begun(true, 1)+lit[257]+dist[sym]+number(v, size.beside), lit[256])
			}
		}
	}
}

// far fails if a block, which has a copy of three bytes from n back, and then its end, is not read so behind stored bytes.
func far(t *testing.T, data []byte, n int, block, end string) {
	t.Helper()
	ahead := slices.Concat([]byte{0, byte(len(data)), byte(len(data) >> 8), byte(65535 - len(data)), byte((65535 - len(data)) >> 8)}, data)
	whole := slices.Concat(ahead, bytesOf(block+end))
	answers(t, whole, api.MaxFile, slices.Concat(data, repeated(data, n)), len(whole), api.OK)
	answers(t, slices.Concat(ahead, bytesOf(block[:len(block)/8*8])), api.MaxFile, nil, 0, api.ErrShort)
}

// repeated tells the three bytes that a copy from n back tells.
func repeated(data []byte, n int) []byte {
	told := slices.Clone(data)
	for range 3 {
		told = append(told, told[len(told)-n])
	}
	return told[len(data):]
}

// P9.1: the symbols 286 and 287, and the distances 30 and 31, of fixed blocks: nothing is read behind them.
func TestFixedCode(t *testing.T) {
	lit, dist := codesOf(litLens()), codesOf(many(32, 5))
	for _, sym := range []int{286, 287} {
		ends(t, begun(true, 1)+lit[sym], api.ErrCode)
		ends(t, begun(false, 1)+lit['a']+lit[sym], api.ErrCode)
		short(t, begun(true, 1)+lit[sym][:7])
	}
	for _, sym := range []int{30, 31} {
		for _, length := range []string{lit[257], lit[265] + "1", lit[285]} {
			ends(t, begun(true, 1)+lit['a']+length+dist[sym], api.ErrCode)
			ends(t, begun(true, 1)+length+dist[sym], api.ErrCode)
			short(t, begun(true, 1)+lit['a']+length+dist[sym][:4])
		}
		refused(t, begun(true, 1)+lit['a']+lit[257]+dist[sym], 1, api.ErrCode)
	}
}

// P9.1: a copy is read whole, then it goes back too far, then it is too long.
func TestCopyOrder(t *testing.T) {
	for n := range 40 {
		data := mixed(n, 256, uint32(n))
		for _, back := range []int{n + 1, n + 2, n + 100, 24577, 32768} {
			bad := opened(true, append(lits(data), copyOf(3, back))...)
			for _, most := range []int{n, n + 2, n + 3, api.MaxFile} {
				refused(t, bad, most, api.ErrDist)
				refused(t, bad+noise(100, 3), most, api.ErrDist)
			}
			ends(t, opened(true, append(lits(data), copyOf(258, back+7))...), api.ErrDist)
			for left := 1; left <= distSizes()[placed(distSizes(), back+7)].beside; left++ {
				whole := opened(true, append(lits(data), copyOf(258, back+7))...)
				short(t, whole[:len(whole)-left])
			}
		}
		if n == 0 {
			continue
		}
		good := fixed(true, append(lits(data), copyOf(5, n))...)
		told := slices.Clone(data)
		for k := range 5 {
			told = append(told, told[k])
		}
		tells(t, good, told)
		for most := n; most < n+5; most++ {
			refused(t, good, most, api.ErrTooLarge)
		}
		answers(t, bytesOf(good), n+5, told, (len(good)+7)/8, api.OK)
	}
}

// P9.1: a copy takes up what stands in blocks ahead, of each kind, and what it tells itself.
func TestCopyAcross(t *testing.T) {
	litLen, distLen := fitting(286, 30, []api.Token{lit('d'), copyOf(4, 3), copyOf(258, 6)})
	s := stored("", false, []byte("ab")) + fixed(false, lit('c'), copyOf(3, 3)) + dynamic(false, litLen, distLen, lit('d'), copyOf(4, 3)) + fixed(false, copyOf(3, 11))
	want := []byte("abcabcdbcdbabc")
	tells(t, s+fixed(true), want)
	for range 258 {
		want = append(want, want[len(want)-6])
	}
	tells(t, s+dynamic(true, litLen, distLen, copyOf(258, 6)), want)
	refused(t, s+opened(true, copyOf(3, 15)), api.MaxFile, api.ErrDist)
	tells(t, s+fixed(true, copyOf(3, 14)), []byte("abcabcdbcdbabcabc"))
}

// P9.1: a byte is too many.
func TestByteTooLarge(t *testing.T) {
	for _, x := range []byte{0, 'a', 143, 144, 255} {
		s := fixed(true, lit(x), lit(x))
		refused(t, s, 0, api.ErrTooLarge)
		refused(t, s, 1, api.ErrTooLarge)
		answers(t, bytesOf(s), 2, []byte{x, x}, (len(s)+7)/8, api.OK)
	}
	full := stored("", false, mixed(65535, 256, 1))
	refused(t, full+fixed(true, lit(1), lit(2)), api.MaxFile, api.ErrTooLarge)
	refused(t, full+fixed(true, copyOf(3, 9)), api.MaxFile, api.ErrTooLarge)
	tells(t, full+fixed(true, lit(1)), append(mixed(65535, 256, 1), 1))
	copies := slices.Repeat([]api.Token{copyOf(258, 1)}, 254)
	tells(t, fixed(true, append([]api.Token{lit(7), copyOf(3, 1)}, copies...)...), bytes.Repeat([]byte{7}, 65536))
	refused(t, fixed(true, append([]api.Token{lit(7), copyOf(4, 1)}, copies...)...), api.MaxFile, api.ErrTooLarge)
}

// P9.1: dynamic blocks of codes that fit what they tell.
func TestDynamic(t *testing.T) {
	text := lits([]byte(strings.Repeat("a block is a block is a block, ", 9)))
	for _, l := range [][]api.Token{nil, {lit(0)}, {lit(255)}, text, append(slices.Clone(text), copyOf(258, 31), copyOf(3, 1), copyOf(11, 200), copyOf(257, 257))} {
		want, _, err := parse(bytesOf(fixed(true, l...)), api.MaxFile)
		if err != api.OK {
			t.Fatalf("the tokens %v: error %d", l, err)
		}
		for _, besides := range [][]int{nil, {7}, {7, 100, 284}, {7, 100, 285}} {
			litLen, distLen := fitting(286, 30, l, besides...)
			tells(t, dynamic(true, litLen, distLen, l...), want)
			litLen, distLen = trimmed(litLen, 257), trimmed(distLen, 1)
			tells(t, dynamic(true, litLen, distLen, l...), want)
			tells(t, fixed(false)+dynamic(false, litLen, distLen)+dynamic(true, litLen, distLen, l...), want)
		}
	}
}

// P9.1: header.Read's error of a dynamic block.
func TestDynamicHeader(t *testing.T) {
	ends(t, begun(true, 2)+number(30, 5)+number(0, 5), api.ErrTooLarge)
	ends(t, begun(true, 2)+number(0, 5)+number(30, 5), api.ErrTooLarge)
	short(t, begun(true, 2)+number(0, 5)+number(29, 5))
	s := begun(true, 2) + number(0, 5) + number(0, 5) + number(0, 4)
	ends(t, s+number(1, 3)+number(1, 3)+number(1, 3)+number(0, 3), api.ErrOver)
	ends(t, s+number(2, 3)+number(1, 3)+number(0, 3)+number(0, 3), api.ErrUnder)
	ends(t, s+number(0, 12), api.ErrUnder)
	ends(t, s+number(0, 6)+number(1, 3)+number(0, 3)+"1", api.ErrCode)
	ends(t, s+number(1, 3)+number(0, 9)+"0"+"00", api.ErrNone)
	ends(t, s+number(0, 6)+number(1, 3)+number(0, 3)+"0"+number(127, 7)+"0"+number(127, 7), api.ErrTooLarge)
	short(t, s+number(0, 6)+number(1, 3)+number(0, 3)+"0"+number(127, 7)+"0")
}

// P9.1: of a dynamic block's codes first whether it can end is asked, then the code of symbols, then that of distances.
func TestDynamicCodes(t *testing.T) {
	over, under, whole := many(257, 8), append(many(255, 8), 0, 9), append(many(255, 8), 9, 9)
	endless, none, lone := append(many(256, 8), 0), many(257, 0), append(many(256, 0), 2)
	overDist, underDist, wholeDist := []int{1, 1, 1}, []int{1, 2}, []int{1, 2, 2}
	for _, c := range []struct {
		lit, dist []int
		want      api.Errno
	}{
		{endless, wholeDist, api.ErrCode}, {endless, overDist, api.ErrCode}, {endless, underDist, api.ErrCode}, {endless, many(30, 0), api.ErrCode},
		{append(many(256, 7), 0), wholeDist, api.ErrCode}, {append(many(256, 9), 0), overDist, api.ErrCode}, {append(many(256, 8), 0, 8), wholeDist, api.ErrCode},
		{none, many(1, 0), api.ErrCode}, {none, wholeDist, api.ErrCode}, {append(many(257, 0), 1), wholeDist, api.ErrCode},
		{over, wholeDist, api.ErrOver}, {over, underDist, api.ErrOver}, {over, many(2, 0), api.ErrOver},
		{under, wholeDist, api.ErrUnder}, {under, overDist, api.ErrUnder}, {under, many(2, 0), api.ErrUnder}, {lone, wholeDist, api.ErrUnder}, {lone, overDist, api.ErrUnder},
		{whole, overDist, api.ErrOver}, {whole, underDist, api.ErrUnder}, {whole, []int{0, 2}, api.ErrUnder}, {whole, []int{2}, api.ErrUnder}, {whole, many(30, 4), api.ErrOver}, {whole, many(30, 5), api.ErrUnder},
	} {
		ends(t, headed(true, c.lit, c.dist), c.want)
	}
	short(t, headed(true, whole, wholeDist))
	short(t, headed(true, whole, many(30, 0)))
}

// P9.1: a code of symbols that has the end alone, of one bit.
func TestDynamicLone(t *testing.T) {
	for _, lits := range []int{257, 286} {
		lens := many(lits, 0)
		lens[256] = 1
		for _, dist := range [][]int{{0}, {1}, many(30, 0), {1, 1}} {
			s := headed(true, lens, dist)
			tells(t, s+"0", nil)
			short(t, s)
			ends(t, s+"1", api.ErrCode)
		}
	}
}

// ended tells the lengths of a code of symbols: the byte a, the end, the length 3 and the lengths 11 and 12.
func ended() []int {
	lens := many(266, 0)
	lens['a'], lens[256], lens[257], lens[265] = 2, 2, 2, 2
	return lens
}

// P9.1: of a block without distances none is read; the bits beside a length are.
func TestDynamicNoDist(t *testing.T) {
	for _, dists := range []int{1, 2, 30} {
		s := headed(true, ended(), many(dists, 0))
		a, end, three, eleven := "00", "01", "10", "11"
		tells(t, s+a+a+end, []byte("aa"))
		tells(t, s+end, nil)
		ends(t, s+a+three, api.ErrCode)
		ends(t, s+three, api.ErrCode)
		for _, beside := range []string{"0", "1"} {
			ends(t, s+a+eleven+beside, api.ErrCode)
			refused(t, s+a+eleven+beside, 1, api.ErrCode)
		}
		short(t, s+a+eleven)
		short(t, s+a+"1")
		refused(t, s+a+three, 0, api.ErrTooLarge)
	}
}

// P9.1: a code of distances that has one alone, of one bit; the other bit is none.
func TestDynamicLoneDist(t *testing.T) {
	a, end, three := "00", "01", "10"
	for sym, size := range distSizes()[:6] {
		dist := many(sym+1, 0)
		dist[sym] = 1
		s := headed(true, ended(), dist)
		told := strings.Repeat("a", size.least)
		s += strings.Repeat(a, size.least) + three
		tells(t, s+"0"+number(0, size.beside)+end, []byte(told+"aaa"))
		ends(t, s+"1", api.ErrCode)
		short(t, s)
		short(t, s+"0")
		if size.beside > 0 {
			refused(t, s+"0"+number(1, size.beside), api.MaxFile, api.ErrDist)
		}
	}
}

// P9.1: each distance of a dynamic block, the last one, too.
func TestDynamicDistances(t *testing.T) {
	data := mixed(32768, 256, 9)
	dist := append(many(28, 5), 4, 4)
	for sym, size := range distSizes() {
		for _, v := range []int{0, 1<<size.beside - 1} {
			far(t, data, size.least+v, headed(true, ended(), dist)+"10"+codesOf(dist)[sym]+number(v, size.beside), "01")
		}
	}
}

// P9.1: behind the last block nothing is read, and ahead of it all is.
func TestLast(t *testing.T) {
	blocks := func(last bool) []string {
		litLen, distLen := fitting(257, 1, []api.Token{lit('a')})
		return []string{fixed(last, lit('a')), dynamic(last, litLen, distLen, lit('a'))}
	}
	for _, one := range blocks(true) {
		for _, behind := range append(blocks(true), "1110", "000", noise(50, 2)) {
			answers(t, bytesOf(one+behind), api.MaxFile, []byte("a"), (len(one)+7)/8, api.OK)
		}
	}
	for _, one := range blocks(false) {
		for _, two := range blocks(true) {
			tells(t, one+two, []byte("aa"))
			tells(t, one+one+two, []byte("aaa"))
		}
		tells(t, stored(one, true, []byte("bc")), []byte("abc"))
		tells(t, stored(stored(one, false, []byte("bc")), true, nil), []byte("abc"))
	}
	answers(t, bytesOf(stored(stored("", true, []byte("bc")), true, []byte("de"))), 2, []byte("bc"), 7, api.OK)
}

// P9.1: as many blocks as come.
func TestManyBlocks(t *testing.T) {
	for _, n := range []int{1, 7, 8, 100, 60000} {
		tells(t, strings.Repeat(fixed(false), n)+fixed(true, lit('z')), []byte("z"))
	}
	empty := stored("", false, nil)
	tells(t, strings.Repeat(empty, 50000)+stored("", true, []byte("z")), []byte("z"))
	refused(t, strings.Repeat(empty, 50000)+begun(true, 3), 0, api.ErrCode)
	litLen, distLen := fitting(257, 1, nil)
	tells(t, strings.Repeat(dynamic(false, litLen, distLen), 500)+fixed(true, lit('z')), []byte("z"))
}

// anyTokens tells tokens that follow no simple pattern behind so many bytes; a few go back too far.
func anyTokens(seed *uint32, told *int) []api.Token {
	var l []api.Token
	for range rising(seed) % 20 {
		if *told == 0 && rising(seed)%200 != 0 || rising(seed)%3 > 0 {
			l = append(l, lit(byte(rising(seed)>>4)))
			*told++
			continue
		}
		back := 1 + rising(seed)%max(*told, 1)
		if rising(seed)%100 == 0 {
			back = min(back+*told, 32768)
		}
		t := copyOf(min(3+rising(seed)%(1<<(rising(seed)%9)), 258), back)
		l = append(l, t)
		*told += t.Len
	}
	return l
}

// anyBlock tells a text of 0 and 1 with a block of any kind behind it.
func anyBlock(s string, last bool, seed *uint32, told *int) string {
	switch rising(seed) % 5 {
	case 0:
		data := mixed(rising(seed)%30, 256, *seed)
		*told += len(data)
		return stored(s, last, data)
	case 1, 2:
		return s + fixed(last, anyTokens(seed, told)...)
	}
	l := anyTokens(seed, told)
	litLen, distLen := fitting(286, 30, l, rising(seed), rising(seed), rising(seed))
	if rising(seed)%3 > 0 {
		litLen, distLen = trimmed(litLen, 257), trimmed(distLen, 1)
	}
	return s + dynamic(last, litLen, distLen, l...)
}

// anyStream tells a stream of blocks of any kinds, others for each seed.
func anyStream(seed *uint32) []byte {
	s, told := "", 0
	for rising(seed)%3 > 0 {
		s = anyBlock(s, false, seed, &told)
	}
	return bytesOf(anyBlock(s, true, seed, &told))
}

// turned tells bytes with some bits turned, few of them at the beginning.
func turned(b []byte, seed *uint32) []byte {
	b = slices.Clone(b)
	for range rising(seed) % 3 {
		b[rising(seed)%len(b)] ^= 1 << (rising(seed) % 8)
	}
	for range rising(seed) % 2 {
		b[rising(seed)%min(len(b), 20)] ^= 1 << (rising(seed) % 8)
	}
	return b
}

// worded fails if Decode answers anything else than parse.
func worded(t *testing.T, b []byte, most int) api.Errno {
	t.Helper()
	want, used, err := parse(b, most)
	answers(t, b, most, want, used, err)
	return err
}

// P9.1: Decode answers of any streams, of such with bits that are turned or left out, and of any bytes, what the document words.
func TestWorded(t *testing.T) {
	seen := map[api.Errno]int{}
	for seed := range uint32(2000) {
		b := anyStream(&seed)
		seen[worded(t, b, api.MaxFile)]++
		bad := turned(b, &seed)
		seen[worded(t, bad, api.MaxFile)]++
		seen[worded(t, bad, rising(&seed)%400)]++
		seen[worded(t, bad[:rising(&seed)%len(bad)], rising(&seed)%1000)]++
		seen[worded(t, mixed(rising(&seed)%60, 256, seed), api.MaxFile)]++
	}
	for _, err := range []api.Errno{api.OK, api.ErrTooLarge, api.ErrShort, api.ErrSum, api.ErrOver, api.ErrUnder, api.ErrCode, api.ErrDist} {
		if seen[err] == 0 {
			t.Errorf("no stream was answered by error %d", err)
		}
	}
}

// P9.1: all streams of at most two bytes.
func TestWordedTwo(t *testing.T) {
	for a := range 256 {
		worded(t, []byte{byte(a)}, api.MaxFile)
		for b := range 256 {
			two := []byte{byte(a), byte(b)}
			worded(t, two, (a+b)%4)
		}
	}
}

// P9.2: what stands behind a stream changes nothing; without its last byte, and without more of them, it is too short.
func TestBehind(t *testing.T) {
	for seed := range uint32(120) {
		b := anyStream(&seed)
		told, used, err := Decode(b, api.MaxFile)
		if err != api.OK {
			continue
		}
		if used != len(b) {
			t.Fatalf("Decode(%x) has %d bytes used, of %d", b, used, len(b))
		}
		for _, behind := range [][]byte{{0}, {255}, {7}, b, mixed(30, 256, seed), bytes.Repeat([]byte{0}, 5000)} {
			answers(t, append(slices.Clone(b), behind...), api.MaxFile, told, used, api.OK)
			answers(t, append(slices.Clone(b), behind...), len(told), told, used, api.OK)
		}
		for n := range used {
			answers(t, b[:n], api.MaxFile, nil, 0, api.ErrShort)
			answers(t, b[:n], len(told), nil, 0, api.ErrShort)
		}
	}
}

// P9.3: any most that is no less than what is told changes nothing; each one below is too small.
func TestMost(t *testing.T) {
	for seed := range uint32(60) {
		b := anyStream(&seed)
		told, used, err := Decode(b, api.MaxFile)
		if err != api.OK {
			continue
		}
		for _, most := range []int{len(told), len(told) + 1, len(told) + 258, 32768, api.MaxFile - 1, api.MaxFile} {
			answers(t, b, most, told, used, api.OK)
		}
		for most := range len(told) {
			answers(t, b, most, nil, 0, api.ErrTooLarge)
		}
	}
}

// P9.1: what another program reads as RFC 1951 has it, is read the same; what it refuses is refused.
func TestElsewhere(t *testing.T) {
	good := 0
	for seed := range uint32(4000) {
		b := anyStream(&seed)
		if seed%4 > 0 {
			b = append(turned(b, &seed), mixed(rising(&seed)%20, 256, seed)...)
		}
		told, used, err := Decode(b, api.MaxFile)
		want, wantUsed, ok := elsewhere(b)
		if ok != (err == api.OK) || !bytes.Equal(told, want) || used != wantUsed {
			t.Fatalf("Decode(%x) = %x, %d, error %d, elsewhere %x, %d, %t", b, told, used, err, want, wantUsed, ok)
		}
		if ok {
			good++
		}
	}
	if good < 500 {
		t.Errorf("%d streams alone were read", good)
	}
}

// samples are bytes of some kinds, up to as many as may be.
func samples() [][]byte {
	l := [][]byte{nil, []byte("a"), []byte("abcabcabc"), []byte(strings.Repeat("what is packed is unpacked as it was. ", 300)), bytes.Repeat([]byte{0}, api.MaxFile), mixed(api.MaxFile, 256, 1), mixed(api.MaxFile, 3, 2), mixed(40000, 20, 3)}
	far := mixed(32768, 256, 4)
	return append(l, append(far, far...), slices.Concat(mixed(3000, 256, 5), bytes.Repeat([]byte{9}, 3000), mixed(3000, 5, 6), []byte(strings.Repeat("0123456789", 300))))
}

// P1, P9.1: what another program packs is unpacked.
func TestFromElsewhere(t *testing.T) {
	for _, data := range samples() {
		for level := flate.HuffmanOnly; level <= flate.BestCompression; level++ {
			var packed bytes.Buffer
			w, err := flate.NewWriter(&packed, level)
			if err != nil {
				t.Fatal(err)
			}
			half := len(data) / 2
			w.Write(data[:half])
			// Behind a flush there stands an empty stored block.
			w.Flush()
			w.Write(data[half:])
			w.Close()
			answers(t, packed.Bytes(), api.MaxFile, data, packed.Len(), api.OK)
			answers(t, packed.Bytes(), len(data), data, packed.Len(), api.OK)
			if len(data) > 0 {
				answers(t, packed.Bytes(), len(data)-1, nil, 0, api.ErrTooLarge)
			}
		}
	}
}

// The rules that hold everywhere: what is handed in stays, behind its end, too; no two answers share memory, and none with what is handed in.
func TestShared(t *testing.T) {
	s := stored(fixed(false, lit('x'), copyOf(5, 1)), false, []byte("abcdef")) + fixed(true, copyOf(4, 6))
	want := []byte("xxxxxxabcdefabcd")
	memory := append(bytesOf(s), bytes.Repeat([]byte{0x55}, 100)...)
	before := slices.Clone(memory)
	b := memory[:len(s)/8+1]
	first, _, _ := Decode(b, api.MaxFile)
	for range 3 {
		told, used, err := Decode(b, api.MaxFile)
		if !bytes.Equal(told, want) || used != len(b) || err != api.OK {
			t.Fatalf("Decode tells %q, %d, error %d", told, used, err)
		}
		for k := range told[:cap(told)] {
			told[:cap(told)][k] = 0xaa
		}
	}
	if !bytes.Equal(memory, before) || !bytes.Equal(first, want) {
		t.Error("what was handed in, or another answer, is another one")
	}
	clear(memory)
	if !bytes.Equal(first, want) {
		t.Error("an answer shares memory with what was handed in")
	}
}

// gave tells what a call gave up with.
func gave(do func()) (what any) {
	defer func() { what = recover() }()
	do()
	return nil
}

// A fault ends a call with its number, wherever it was wrapped; what is no fault goes on as a panic.
func TestCaught(t *testing.T) {
	if err := caught(func() {}); err != api.OK {
		t.Errorf("caught of nothing = %d", err)
	}
	if err := caught(func() { panic(fault{api.ErrDist}) }); err != api.ErrDist {
		t.Errorf("caught of a fault = %d", err)
	}
	if s := (fault{api.ErrDist}).Error(); s != "inflate: error 14" {
		t.Errorf("a fault tells %q", s)
	}
	for _, other := range []any{"a text", flate.CorruptInputError(3)} {
		if got := gave(func() { caught(func() { panic(other) }) }); got != other {
			t.Errorf("caught of %v gives up with %v", other, got)
		}
	}
}
