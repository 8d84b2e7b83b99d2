package inflate

import (
	"bytes"
	"compress/flate"
	"io"
	"slices"
	"strings"
	"sync"
	"testing"

	"valise/api"
	"valise/header"
	"valise/huff"
	"valise/limit"
)

// rising tells the next number that follows no simple pattern.
func rising(seed *uint32) int {
	*seed = *seed*1664525 + 1013904223
	return int(*seed >> 8)
}

// many tells n times the same length.
func many(n, length int) []int {
	return slices.Repeat([]int{length}, n)
}

// mixed tells n bytes of the lowest kinds numbers, in no simple order, others for each seed.
func mixed(n, kinds int, seed uint32) []byte {
	b := make([]byte, n)
	for k := range b {
		b[k] = byte(rising(&seed) >> 4 % kinds)
	}
	return b
}

// text tells bytes as a text of 0 and 1, the lowest bit of a byte first.
func text(b []byte) string {
	var s strings.Builder
	for k := range 8 * len(b) {
		s.WriteByte('0' + b[k/8]>>(k%8)&1)
	}
	return s.String()
}

// bytesOf tells the bytes of a text of 0 and 1, with bits 0 up to a whole byte.
func bytesOf(s string) []byte {
	b := make([]byte, (len(s)+7)/8)
	for k := range len(s) {
		b[k/8] |= (s[k] - '0') << (k % 8)
	}
	return b
}

// noise tells n bits that follow no simple pattern as a text, others for each seed.
func noise(n int, seed uint32) string {
	var s strings.Builder
	for range n {
		s.WriteByte('0' + byte(rising(&seed)>>16&1))
	}
	return s.String()
}

// number tells a number as n bits, the lowest one first.
func number(v, n int) string {
	var s strings.Builder
	for k := range n {
		s.WriteByte('0' + byte(v>>k&1))
	}
	return s.String()
}

// codesOf tells the symbols' codes as texts, the highest bit first, as chapter 4 words them; of those that are not used nothing.
func codesOf(lens []int) []string {
	texts := make([]string, len(lens))
	code, last := -1, 0
	for length := 1; length <= 15; length++ {
		for sym := range lens {
			if lens[sym] != length {
				continue
			}
			code++
			for ; last != 0 && last < length; last++ {
				code *= 2
			}
			last = length
			var s strings.Builder
			for k := range length {
				s.WriteByte('0' + byte(code>>(length-1-k)&1))
			}
			texts[sym] = s.String()
		}
	}
	return texts
}

// litLens are the lengths of the symbols of fixed blocks.
func litLens() []int {
	lens := make([]int, 288)
	for sym := range lens {
		switch {
		case sym <= 143:
			lens[sym] = 8
		case sym <= 255:
			lens[sym] = 9
		case sym <= 279:
			lens[sym] = 7
		default:
			lens[sym] = 8
		}
	}
	return lens
}

// sized are the least length, distance of each symbol, and how many bits are beside it, as RFC 1951 has them.
type sized struct{ least, beside int }

// lenSizes are the symbols of lengths, from 257 on.
func lenSizes() []sized {
	return []sized{
		{3, 0}, {4, 0}, {5, 0}, {6, 0}, {7, 0}, {8, 0}, {9, 0}, {10, 0}, {11, 1}, {13, 1}, {15, 1}, {17, 1}, {19, 2}, {23, 2}, {27, 2}, {31, 2},
		{35, 3}, {43, 3}, {51, 3}, {59, 3}, {67, 4}, {83, 4}, {99, 4}, {115, 4}, {131, 5}, {163, 5}, {195, 5}, {227, 5}, {258, 0},
	}
}

// distSizes are the symbols of distances, from 0 on.
func distSizes() []sized {
	return []sized{
		{1, 0}, {2, 0}, {3, 0}, {4, 0}, {5, 1}, {7, 1}, {9, 2}, {13, 2}, {17, 3}, {25, 3}, {33, 4}, {49, 4}, {65, 5}, {97, 5}, {129, 6}, {193, 6}, {257, 7}, {385, 7},
		{513, 8}, {769, 8}, {1025, 9}, {1537, 9}, {2049, 10}, {3073, 10}, {4097, 11}, {6145, 11}, {8193, 12}, {12289, 12}, {16385, 13}, {24577, 13},
	}
}

// placed tells which one of the sizes a number has, the last one that begins with it or ahead of it.
func placed(sizes []sized, n int) int {
	k := len(sizes) - 1
	for sizes[k].least > n {
		k--
	}
	return k
}

// symbolsOf tells the symbols of a token: a byte's, or a length's and a distance's.
func symbolsOf(t api.Token) (lit, dist int) {
	if t.Len == 0 {
		return int(t.Lit), 0
	}
	return 257 + placed(lenSizes(), t.Len), placed(distSizes(), t.Dist)
}

// coded tells a token by codes.
func coded(lit, dist []string, t api.Token) string {
	l, d := symbolsOf(t)
	if t.Len == 0 {
		return lit[l]
	}
	lenSize, distSize := lenSizes()[l-257], distSizes()[d]
	return lit[l] + number(t.Len-lenSize.least, lenSize.beside) + dist[d] + number(t.Dist-distSize.least, distSize.beside)
}

// begun tells how a block begins.
func begun(last bool, kind int) string {
	if last {
		return "1" + number(kind, 2)
	}
	return "0" + number(kind, 2)
}

// stored tells a text with a stored block behind it.
func stored(s string, last bool, data []byte) string {
	s += begun(last, 0)
	for len(s)%8 != 0 {
		s += "0"
	}
	return s + number(len(data), 16) + number(65535-len(data), 16) + text(data)
}

// symbols tells tokens by lengths of codes, without a block's end.
func symbols(lit, dist []int, l ...api.Token) string {
	return allCoded(codesOf(lit), codesOf(dist), l)
}

// allCoded tells tokens by codes.
func allCoded(lit, dist []string, l []api.Token) string {
	var s strings.Builder
	for _, t := range l {
		s.WriteString(coded(lit, dist, t))
	}
	return s.String()
}

// fixed tells a fixed block.
func fixed(last bool, l ...api.Token) string {
	lit, _ := fixedTexts()
	return opened(last, l...) + lit[256]
}

// opened tells a fixed block without its end.
func opened(last bool, l ...api.Token) string {
	lit, dist := fixedTexts()
	return begun(last, 1) + allCoded(lit, dist, l)
}

// headed tells a dynamic block's beginning.
func headed(last bool, lit, dist []int) string {
	b, err := header.Put(api.Bits{}, lit, dist)
	if err != api.OK {
		panic("no lengths of a block")
	}
	return begun(last, 2) + text(b.B)[:b.N]
}

// dynamic tells a dynamic block of codes that its symbols have.
func dynamic(last bool, lit, dist []int, l ...api.Token) string {
	return headed(last, lit, dist) + symbols(lit, dist, l...) + codesOf(lit)[256]
}

// fitting tells the lengths of codes for tokens, of as many symbols as told, some of which come besides.
func fitting(lits, dists int, l []api.Token, besides ...int) (lit, dist []int) {
	litFreq, distFreq := make([]int, lits), make([]int, dists)
	litFreq[256] = 1
	for _, sym := range besides {
		litFreq[sym%lits]++
	}
	for _, t := range l {
		lit, dist := symbolsOf(t)
		litFreq[lit]++
		if t.Len != 0 {
			distFreq[dist]++
		}
	}
	lit, _ = limit.Lengths(litFreq, 15)
	dist, _ = limit.Lengths(distFreq, 15)
	return lit, dist
}

// trimmed tells lengths without those at the end that are 0, but at least so many.
func trimmed(lens []int, least int) []int {
	for len(lens) > least && lens[len(lens)-1] == 0 {
		lens = lens[:len(lens)-1]
	}
	return lens
}

// lit is a byte, as a token.
func lit(x byte) api.Token { return api.Token{Lit: x} }

// copyOf is a copy.
func copyOf(length, dist int) api.Token { return api.Token{Len: length, Dist: dist} }

// lits tells bytes as tokens that are bytes.
func lits(b []byte) []api.Token {
	var l []api.Token
	for _, x := range b {
		l = append(l, lit(x))
	}
	return l
}

// code is what symbols' texts stand for, and which texts are the beginning of one.
type code struct {
	syms  map[string]int
	heads map[string]bool
}

// codeOf tells the code of lengths.
func codeOf(lens []int) code {
	c := code{map[string]int{}, map[string]bool{}}
	for sym, s := range codesOf(lens) {
		if s == "" {
			continue
		}
		c.syms[s] = sym
		for n := range len(s) {
			c.heads[s[:n]] = true
		}
	}
	return c
}

// fixedCodes are the codes of fixed blocks.
var fixedCodes = sync.OnceValues(func() (lit, dist code) { return codeOf(litLens()), codeOf(many(32, 5)) })

// fixedTexts are the codes of fixed blocks, symbol by symbol.
var fixedTexts = sync.OnceValues(func() (lit, dist []string) { return codesOf(litLens()), codesOf(many(32, 5)) })

// parsed is a stream that was read as the chapter words it, without help of the package.
type parsed struct {
	s    string
	at   int
	most int
	told []byte
	err  api.Errno
}

// fail says what is wrong, if nothing was yet.
func (p *parsed) fail(err api.Errno) {
	if p.err == api.OK {
		p.err = err
	}
}

// failIf says what is wrong, if it is, and nothing was yet.
func (p *parsed) failIf(wrong bool, err api.Errno) {
	if wrong {
		p.fail(err)
	}
}

// number reads n bits, if there is nothing wrong yet.
func (p *parsed) number(n int) int {
	p.failIf(len(p.s)-p.at < n, api.ErrShort)
	if p.err != api.OK {
		return 0
	}
	v := 0
	for k := range n {
		v += int(p.s[p.at+k]-'0') << k
	}
	p.at += n
	return v
}

// symbol reads a symbol, if there is nothing wrong yet.
func (p *parsed) symbol(c code) int {
	for end := p.at + 1; p.err == api.OK; end++ {
		if end > len(p.s) {
			p.fail(api.ErrShort)
			break
		}
		if sym, ok := c.syms[p.s[p.at:end]]; ok {
			p.at = end
			return sym
		}
		p.failIf(!c.heads[p.s[p.at:end]], api.ErrCode)
	}
	return 0
}

// stored reads a stored block behind its kind.
func (p *parsed) stored() {
	for p.at%8 != 0 {
		p.at++
	}
	n := p.number(8) + 256*p.number(8)
	turned := p.number(8) + 256*p.number(8)
	p.failIf(n+turned != 65535 || n&turned != 0, api.ErrSum)
	p.failIf(len(p.told)+n > p.most, api.ErrTooLarge)
	p.failIf(len(p.s)-p.at < 8*n, api.ErrShort)
	for k := 0; k < n && p.err == api.OK; k++ {
		p.told = append(p.told, byte(p.number(8)))
	}
}

// dynamic reads a dynamic block behind its kind.
func (p *parsed) dynamic() {
	b := bytesOf(p.s)
	lit, dist, behind, err := header.Read(api.Bits{B: b, N: 8 * len(b)}, p.at)
	if p.fail(err); p.err != api.OK {
		return
	}
	p.at = behind
	p.failIf(lit[256] == 0, api.ErrCode)
	_, err = huff.New(lit)
	p.fail(err)
	_, err = huff.New(dist)
	p.failIf(slices.ContainsFunc(dist, func(length int) bool { return length != 0 }), err)
	p.symbols(codeOf(lit), codeOf(dist))
}

// symbols reads symbols up to a block's end.
func (p *parsed) symbols(lit, dist code) {
	for p.err == api.OK {
		sym := p.symbol(lit)
		switch {
		case p.err != api.OK || sym == 256:
			return
		case sym < 256:
			p.failIf(len(p.told)+1 > p.most, api.ErrTooLarge)
			p.told = append(p.told, byte(sym))
		case sym > 285:
			p.fail(api.ErrCode)
		default:
			p.copied(lenSizes()[sym-257], dist)
		}
	}
}

// copied reads a copy behind its length's symbol.
func (p *parsed) copied(size sized, dist code) {
	n := size.least + p.number(size.beside)
	p.failIf(len(dist.syms) == 0, api.ErrCode)
	sym := p.symbol(dist)
	if p.failIf(sym > 29, api.ErrCode); p.err != api.OK {
		return
	}
	back := distSizes()[sym].least + p.number(distSizes()[sym].beside)
	p.failIf(back > len(p.told), api.ErrDist)
	p.failIf(len(p.told)+n > p.most, api.ErrTooLarge)
	for k := 0; k < n && p.err == api.OK; k++ {
		p.told = append(p.told, p.told[len(p.told)-back])
	}
}

// parse tells what Decode answers, as the document words it.
func parse(b []byte, most int) ([]byte, int, api.Errno) {
	p := parsed{s: text(b), most: most}
	p.failIf(most < 0 || most > 65536, api.ErrArg)
	for last := 0; last == 0 && p.err == api.OK; {
		last = p.number(1)
		kind := p.number(2)
		if p.err != api.OK {
			break
		}
		switch kind {
		case 0:
			p.stored()
		case 1:
			p.symbols(fixedCodes())
		case 2:
			p.dynamic()
		default:
			p.fail(api.ErrCode)
		}
	}
	if p.err != api.OK {
		return nil, 0, p.err
	}
	return p.told, (p.at + 7) / 8, api.OK
}

// elsewhere tells what another program reads of a stream, and how many bytes it has; and whether it is one.
func elsewhere(b []byte) ([]byte, int, bool) {
	left := bytes.NewReader(b)
	told, err := io.ReadAll(flate.NewReader(left))
	if err != nil {
		return nil, 0, false
	}
	return told, len(b) - left.Len(), true
}

// shown tells at most the first hundred of bytes, for a test's word.
func shown(b []byte) []byte { return b[:min(len(b), 100)] }

// answers fails if Decode answers anything else.
func answers(t *testing.T, b []byte, most int, want []byte, wantUsed int, wantErr api.Errno) {
	t.Helper()
	got, used, err := Decode(b, most)
	if !bytes.Equal(got, want) || used != wantUsed || err != wantErr {
		t.Fatalf("Decode(%x (%d bytes), %d) = %x (%d bytes), %d, error %d, want %x (%d bytes), %d, error %d", shown(b), len(b), most, shown(got), len(got), used, err, shown(want), len(want), wantUsed, wantErr)
	}
}

// tells fails if Decode of a text of 0 and 1 does not tell bytes, with all that stands there used.
func tells(t *testing.T, s string, want []byte) {
	t.Helper()
	answers(t, bytesOf(s), api.MaxFile, want, (len(s)+7)/8, api.OK)
}

// refused fails if Decode of a text of 0 and 1 answers another error.
func refused(t *testing.T, s string, most int, want api.Errno) {
	t.Helper()
	answers(t, bytesOf(s), most, nil, 0, want)
}

// evened tells a text of 0 and 1 with a block ahead, of at most 7 bytes 200, so that it ends with a byte.
func evened(s string) string {
	for n := range 8 {
		if whole := fixed(false, slices.Repeat([]api.Token{lit(200)}, n)...) + s; len(whole)%8 == 0 {
			return whole
		}
	}
	panic("nine bits a byte meet each place in a byte")
}

// ends fails if Decode answers another error of what stands in a text of 0 and 1, where nothing stands behind it and where something does.
func ends(t *testing.T, s string, want api.Errno) {
	t.Helper()
	refused(t, evened(s), api.MaxFile, want)
	for seed := range uint32(4) {
		refused(t, evened(s)+noise(320, seed), api.MaxFile, want)
	}
}

// short fails if Decode of what stands in a text of 0 and 1 does not find it too short.
func short(t *testing.T, s string) {
	t.Helper()
	refused(t, evened(s), api.MaxFile, api.ErrShort)
}
