package header

import (
	"bytes"
	"compress/flate"
	"io"
	"math"
	"slices"
	"strings"
	"testing"

	"valise/api"
	"valise/bits"
	"valise/huff"
	"valise/limit"
)

// rising tells the next number that follows no simple pattern.
func rising(seed *uint32) int {
	*seed = *seed*1664525 + 1013904223
	return int(*seed >> 8)
}

// many tells n times the same length.
func many(n, length int) []int {
	return slices.Repeat([]int{length}, n)
}

// stretched tells n lengths, many of them alike in a row, others for each seed.
func stretched(n int, seed uint32) []int {
	var lens []int
	for len(lens) < n {
		length := max(rising(&seed)%24-8, 0)
		lens = append(lens, many(1+rising(&seed)%(1+rising(&seed)%160), length)...)
	}
	return lens[:n]
}

// mixed tells n lengths that follow no simple pattern, others for each seed.
func mixed(n int, seed uint32) []int {
	lens := make([]int, n)
	for k := range lens {
		lens[k] = rising(&seed) % 16
	}
	return lens
}

// lists are lists of lengths.
func lists() [][]int {
	l := [][]int{{0}, {15}, {1, 2, 3}, {0, 0, 5, 5, 5, 5, 0}, slices.Concat(many(144, 8), many(112, 9), many(24, 7), many(8, 8))}
	for n := 1; n <= 316; n++ {
		l = append(l, stretched(n, uint32(n)), mixed(n, uint32(n)))
		if n <= 14 || n > 137 && n <= 142 || n >= 276 {
			for length := range 16 {
				l = append(l, many(n, length))
				if n > 1 {
					l = append(l, append(many(n-1, length), 3), append([]int{7}, many(n-1, length)...))
				}
			}
		}
	}
	return l
}

// blocks goes through lengths of blocks.
func blocks(yield func(lit, dist []int) bool) {
	for k := range 200 {
		seed := uint32(k)
		lits, dists := 257+rising(&seed)%30, 1+rising(&seed)%30
		lens := stretched(lits+dists, seed)
		if k%5 == 0 {
			lens = mixed(lits+dists, seed)
		}
		if !yield(lens[:lits], lens[lits:]) {
			return
		}
	}
	for length := range 16 {
		for _, lits := range []int{257, 258, 275, 276, 285, 286} {
			for _, dists := range []int{1, 2, 29, 30} {
				if !yield(many(lits, length), many(dists, length)) || !yield(many(lits, length), many(dists, 15-length)) {
					return
				}
			}
		}
	}
}

// noLengths are lists with a number that is no length.
func noLengths(n int) [][]int {
	var l [][]int
	for _, length := range []int{-1, -2, -15, 16, 17, 18, 19, 31, 256, math.MaxInt, math.MinInt} {
		for _, k := range []int{0, n / 2, n - 1} {
			lens := mixed(n, 3)
			lens[k] = length
			l = append(l, lens)
		}
	}
	return l
}

// wrongRows are rows that are not right.
func wrongRows() []api.Bits {
	return []api.Bits{{N: 1}, {N: -1}, {N: math.MinInt}, {N: math.MaxInt}, {B: []byte{0}}, {B: []byte{0, 0}, N: 8}, {B: []byte{0}, N: 9}, {B: []byte{2}, N: 1}, {B: []byte{0x80}, N: 7}, {B: []byte{0, 0x10}, N: 12}, {B: []byte{1}, N: -8}}
}

// row tells the row of a text of 0 and 1, without help of the package.
func row(text string) api.Bits {
	b := api.Bits{N: len(text)}
	for k, c := range text {
		if k%8 == 0 {
			b.B = append(b.B, 0)
		}
		b.B[k/8] |= byte(c-'0') << (k % 8)
	}
	return b
}

// text tells a row as a text of 0 and 1.
func text(b api.Bits) string {
	var s strings.Builder
	for k := range b.N {
		s.WriteByte('0' + b.B[k/8]>>(k%8)&1)
	}
	return s.String()
}

// noise tells n bits that follow no simple pattern as a text, others for each seed.
func noise(n int, seed uint32) string {
	var s strings.Builder
	for range n {
		s.WriteByte('0' + byte(rising(&seed)>>16&1))
	}
	return s.String()
}

// number tells a number as n bits, the lowest one first.
func number(v, n int) string {
	var s strings.Builder
	for k := range n {
		s.WriteByte('0' + byte(v>>k&1))
	}
	return s.String()
}

// beside tells how many bits V has beside a run's symbol.
func beside(sym int) int {
	switch sym {
	case 16:
		return 2
	case 17:
		return 3
	case 18:
		return 7
	}
	return 0
}

// worded tells the symbols' codes as texts, the highest bit first, as chapter 4 words them, without help of a package.
func worded(lens []int) []string {
	texts := make([]string, len(lens))
	code, last := -1, 0
	for length := 1; length <= 15; length++ {
		for sym := range lens {
			if lens[sym] != length {
				continue
			}
			code++
			for ; last != 0 && last < length; last++ {
				code *= 2
			}
			last = length
			var s strings.Builder
			for k := range length {
				s.WriteByte('0' + byte(code>>(length-1-k)&1))
			}
			texts[sym] = s.String()
		}
	}
	return texts
}

// placed tells in which order the run symbols' lengths stand.
func placed() []int {
	return []int{16, 17, 18, 0, 8, 7, 9, 6, 10, 5, 11, 4, 12, 3, 13, 2, 14, 1, 15}
}

// begun tells a header's text up to its runs: the code's first lengths, in the header's order, are there.
func begun(lits, dists, count int, code []int) string {
	s := number(lits-257, 5) + number(dists-1, 5) + number(count-4, 4)
	for _, sym := range placed()[:count] {
		s += number(code[sym], 3)
	}
	return s
}

// coded tells the text of runs by a code.
func coded(code []int, l ...api.Run) string {
	texts, s := worded(code), ""
	for _, run := range l {
		s += texts[run.Sym] + number(run.V, beside(run.Sym))
	}
	return s
}

// codeOf tells lengths of a code of run symbols: these alone are used, as many as a power of two, of the same length.
func codeOf(length int, syms ...int) []int {
	code := make([]int, 19)
	for _, sym := range syms {
		code[sym] = length
	}
	return code
}

// told tells what Unpack answers, as the document words it, without help of the package.
func told(l []api.Run, n int) ([]int, api.Errno) {
	var lens []int
	if n < 1 || n > 316 {
		return nil, api.ErrArg
	}
	for _, run := range l {
		if run.Sym < 0 || run.Sym > 18 || run.V < 0 || run.V >= 1<<beside(run.Sym) {
			return nil, api.ErrArg
		}
		if run.Sym == 16 && len(lens) == 0 {
			return nil, api.ErrNone
		}
		lens = append(lens, ones(run, lens)...)
		if len(lens) > n {
			return nil, api.ErrTooLarge
		}
	}
	if len(lens) < n {
		return nil, api.ErrShort
	}
	return lens, api.OK
}

// ones tells what a run tells behind lengths.
func ones(run api.Run, lens []int) []int {
	switch run.Sym {
	case 16:
		return many(3+run.V, lens[len(lens)-1])
	case 17:
		return many(3+run.V, 0)
	case 18:
		return many(11+run.V, 0)
	}
	return []int{run.Sym}
}

// whole tells whether lengths are a table, as chapter 4 words it, without help of a package.
func whole(lens []int) api.Errno {
	sum, count := 0, 0
	for _, length := range lens {
		if length != 0 {
			sum += 1 << 15 >> length
			count++
		}
	}
	switch {
	case sum > 1<<15:
		return api.ErrOver
	case sum < 1<<15 && (count != 1 || sum != 1<<14):
		return api.ErrUnder
	}
	return api.OK
}

// parsed is a header that was read from a text of 0 and 1: what it says, and the place behind.
type parsed struct {
	s         string
	at        int
	err       api.Errno
	code      []int
	runs      []api.Run
	lit, dist []int
}

// take reads n bits, if there is nothing wrong yet.
func (p *parsed) take(n int) int {
	if p.err == api.OK && len(p.s)-p.at < n {
		p.err = api.ErrShort
	}
	if p.err != api.OK {
		return 0
	}
	v := 0
	for k := range n {
		v += int(p.s[p.at+k]-'0') << k
	}
	p.at += n
	return v
}

// symbol reads a symbol, if there is nothing wrong yet.
func (p *parsed) symbol(texts []string) int {
	for end := p.at + 1; p.err == api.OK; end++ {
		if end > len(p.s) {
			p.err = api.ErrShort
			break
		}
		if sym := slices.Index(texts, p.s[p.at:end]); sym >= 0 {
			p.at = end
			return sym
		}
		if !slices.ContainsFunc(texts, func(code string) bool { return strings.HasPrefix(code, p.s[p.at:end]) }) {
			p.err = api.ErrCode
		}
	}
	return 0
}

// fail says what is wrong, if nothing was yet.
func (p *parsed) fail(err api.Errno) {
	if p.err == api.OK {
		p.err = err
	}
}

// parse reads a header as the document words it, without help of the package.
func parse(s string, at int) *parsed {
	p := &parsed{s: s, at: at, code: make([]int, 19)}
	lits := p.take(5) + 257
	dists := p.take(5) + 1
	if lits > 286 || dists > 30 {
		p.fail(api.ErrTooLarge)
	}
	for _, sym := range placed()[:p.take(4)+4] {
		p.code[sym] = p.take(3)
	}
	p.fail(whole(p.code))
	texts := worded(p.code)
	var lens []int
	for p.err == api.OK && len(lens) < lits+dists {
		run := api.Run{Sym: p.symbol(texts)}
		run.V = p.take(beside(run.Sym))
		p.runs = append(p.runs, run)
		if p.err == api.OK && run.Sym == 16 && len(lens) == 0 {
			p.fail(api.ErrNone)
		}
		if p.err == api.OK {
			lens = append(lens, ones(run, lens)...)
		}
		if len(lens) > lits+dists {
			p.fail(api.ErrTooLarge)
		}
	}
	if p.err == api.OK {
		p.lit, p.dist = lens[:lits], lens[lits:]
	}
	return p
}

// reads fails if Read of a text answers anything else than parse.
func reads(t *testing.T, s string, at int) {
	t.Helper()
	p := parse(s, at)
	behind := p.at
	if p.err != api.OK {
		behind = 0
	}
	answers(t, row(s), at, p.lit, p.dist, behind, p.err)
}

// answers fails if Read answers anything else.
func answers(t *testing.T, b api.Bits, at int, lit, dist []int, behind int, want api.Errno) {
	t.Helper()
	gotLit, gotDist, gotBehind, err := Read(b, at)
	if !slices.Equal(gotLit, lit) || !slices.Equal(gotDist, dist) || gotBehind != behind || err != want {
		t.Fatalf("Read(%v, %d) = %v, %v, %d, error %d, want %v, %v, %d, error %d", b, at, gotLit, gotDist, gotBehind, err, lit, dist, behind, want)
	}
}

// refused fails if Read of a text answers another error.
func refused(t *testing.T, s string, want api.Errno) {
	t.Helper()
	answers(t, row(s), 0, nil, nil, 0, want)
}

// unpacks fails if Unpack answers anything else.
func unpacks(t *testing.T, l []api.Run, n int, want []int, wantErr api.Errno) {
	t.Helper()
	if got, err := Unpack(l, n); !slices.Equal(got, want) || err != wantErr {
		t.Errorf("Unpack(%v, %d) = %v, error %d, want %v, error %d", l, n, got, err, want, wantErr)
	}
}

// The chapter's examples.
func TestExamples(t *testing.T) {
	l := []api.Run{{Sym: 3}, {Sym: 16, V: 1}, {Sym: 17}}
	unpacks(t, l, 8, []int{3, 3, 3, 3, 3, 0, 0, 0}, api.OK)
	unpacks(t, l, 7, nil, api.ErrTooLarge)
	unpacks(t, l, 9, nil, api.ErrShort)
	unpacks(t, []api.Run{{Sym: 16}}, 3, nil, api.ErrNone)
}

// P8.1: what each run tells, behind a length of 9.
func TestUnpack(t *testing.T) {
	for sym := range 19 {
		for v := range 1 << beside(sym) {
			l := []api.Run{{Sym: 9}, {Sym: sym, V: v}}
			want := append([]int{9}, ones(l[1], []int{9})...)
			unpacks(t, l, len(want), want, api.OK)
			unpacks(t, l, len(want)-1, nil, api.ErrTooLarge)
			unpacks(t, l, len(want)+1, nil, api.ErrShort)
		}
	}
	unpacks(t, []api.Run{{Sym: 18, V: 127}, {Sym: 18, V: 127}, {Sym: 18, V: 29}}, 316, many(316, 0), api.OK)
	unpacks(t, []api.Run{{Sym: 18}, {Sym: 16, V: 3}, {Sym: 4}, {Sym: 16}}, 21, append(many(17, 0), 4, 4, 4, 4), api.OK)
	unpacks(t, []api.Run{{Sym: 17, V: 7}, {Sym: 16}}, 13, many(13, 0), api.OK)
	unpacks(t, []api.Run{{Sym: 0}}, 1, []int{0}, api.OK)
}

// P8.1: which runs may not be, and how many lengths may not be asked for.
func TestUnpackArg(t *testing.T) {
	vs := []int{-1, -2, -128, 1, 2, 3, 4, 7, 8, 9, 127, 128, 129, 1 << 20, 1 << 32, math.MaxInt, math.MaxInt - 10, math.MinInt}
	for sym := range 19 {
		for _, v := range vs {
			if v < 0 || v >= 1<<beside(sym) {
				unpacks(t, []api.Run{{Sym: 9}, {Sym: sym, V: v}}, 316, nil, api.ErrArg)
				unpacks(t, []api.Run{{Sym: sym, V: v}}, 1, nil, api.ErrArg)
			}
		}
	}
	for _, sym := range []int{-1, -2, -16, 19, 20, 31, 256, 1<<32 + 1, math.MaxInt, math.MinInt} {
		for _, v := range append(vs, 0) {
			unpacks(t, []api.Run{{Sym: 9}, {Sym: sym, V: v}}, 2, nil, api.ErrArg)
		}
	}
	for _, n := range []int{0, -1, -316, 317, 318, 1 << 32, math.MaxInt, math.MinInt} {
		for _, l := range [][]api.Run{nil, {}, {{Sym: 1}}, {{Sym: 16}}, {{Sym: 18, V: 127}, {Sym: 18, V: 127}, {Sym: 18, V: 30}}} {
			unpacks(t, l, n, nil, api.ErrArg)
		}
	}
}

// P8.1: of several errors the first one, run by run.
func TestUnpackOrder(t *testing.T) {
	wrong, none, large := api.Run{Sym: 19}, api.Run{Sym: 16, V: 3}, api.Run{Sym: 18, V: 127}
	for _, c := range []struct {
		l    []api.Run
		n    int
		want api.Errno
	}{
		{nil, 1, api.ErrShort}, {nil, 316, api.ErrShort}, {[]api.Run{}, 1, api.ErrShort},
		{[]api.Run{{Sym: 16, V: 4}}, 2, api.ErrArg}, {[]api.Run{none}, 2, api.ErrNone}, {[]api.Run{none}, 316, api.ErrNone},
		{[]api.Run{none, wrong}, 1, api.ErrNone}, {[]api.Run{wrong, none}, 1, api.ErrArg}, {[]api.Run{large, wrong}, 137, api.ErrTooLarge}, {[]api.Run{large, wrong}, 138, api.ErrArg}, {[]api.Run{large, wrong}, 316, api.ErrArg},
		{[]api.Run{{Sym: 5}, {Sym: 5}}, 1, api.ErrTooLarge}, {[]api.Run{{Sym: 5}, none}, 6, api.ErrTooLarge}, {[]api.Run{{Sym: 5}, none}, 8, api.ErrShort}, {[]api.Run{{Sym: 5}, none, {Sym: 17, V: 8}}, 6, api.ErrTooLarge},
		{[]api.Run{large, large, large}, 316, api.ErrTooLarge}, {slices.Repeat([]api.Run{{Sym: 2}}, 100000), 316, api.ErrTooLarge},
	} {
		if got, err := Unpack(c.l, c.n); len(got) != 0 || err != c.want {
			t.Errorf("Unpack of %d runs, %d = %v, error %d, want error %d", len(c.l), c.n, got, err, c.want)
		}
	}
}

// anyRuns tells runs that follow no simple pattern, some of which may not be, others for each seed.
func anyRuns(seed *uint32) []api.Run {
	l := make([]api.Run, rising(seed)%12)
	for k := range l {
		sym := rising(seed) % 19
		l[k] = api.Run{Sym: sym, V: rising(seed) % (1 << beside(sym))}
		if rising(seed)%60 == 0 {
			l[k].V += 1 << beside(sym)
		}
	}
	return l
}

// P8.1: any runs tell what the document words.
func TestUnpackWorded(t *testing.T) {
	for seed := range uint32(20000) {
		l := anyRuns(&seed)
		n := rising(&seed)%3 - 1
		for _, run := range l {
			n += len(ones(run, []int{0}))
		}
		want, err := told(l, n)
		unpacks(t, l, n, want, err)
	}
}

// P8.2: runs tell the list, and are no more than its lengths.
func TestPack(t *testing.T) {
	for _, lens := range lists() {
		l, err := Pack(lens)
		if err != api.OK || len(l) > len(lens) {
			t.Fatalf("Pack(%v) = %v, error %d", lens, l, err)
		}
		if got, err := told(l, len(lens)); !slices.Equal(got, lens) || err != api.OK {
			t.Fatalf("Pack(%v) = %v, which tell %v, error %d", lens, l, got, err)
		}
	}
}

// P8.2: of n lengths all alike there are at most 4 and n / 6 runs.
func TestPackAlike(t *testing.T) {
	for n := 1; n <= 316; n++ {
		for length := range 16 {
			l, err := Pack(many(n, length))
			if err != api.OK || len(l) > 4+n/6 || len(l) > n {
				t.Errorf("Pack of %d times %d = %v, error %d", n, length, l, err)
			}
			if got, err := told(l, n); !slices.Equal(got, many(n, length)) || err != api.OK {
				t.Errorf("Pack of %d times %d = %v, which tell %v, error %d", n, length, l, got, err)
			}
		}
	}
}

// P8.2: what is no list of lengths.
func TestPackRefused(t *testing.T) {
	l := [][]int{nil, {}, many(317, 0), many(317, 8), many(1000, 0), mixed(318, 1)}
	for _, n := range []int{1, 2, 20, 316, 317} {
		l = append(l, noLengths(n)...)
	}
	for _, lens := range l {
		if got, err := Pack(lens); len(got) != 0 || err != api.ErrArg {
			t.Errorf("Pack(%v) = %v, error %d, want error %d", lens, got, err, api.ErrArg)
		}
	}
}

// P8.3: behind the row there is a header of the lengths, and nothing more; its code is whole, or has one symbol alone, of one bit.
func TestPut(t *testing.T) {
	k := uint32(0)
	for lit, dist := range blocks {
		ahead := noise(int(k%19), k)
		k++
		b, err := Put(row(ahead), lit, dist)
		if err != api.OK || bits.Check(b) != api.OK {
			t.Fatalf("Put(%s, %v, %v) = %v, error %d", ahead, lit, dist, b, err)
		}
		s := text(b)
		p := parse(s, len(ahead))
		if !strings.HasPrefix(s, ahead) || p.err != api.OK || p.at != len(s) || !slices.Equal(p.lit, lit) || !slices.Equal(p.dist, dist) {
			t.Fatalf("Put(%s, %v, %v) = %s: %v", ahead, lit, dist, s, p)
		}
		if err := whole(p.code); err != api.OK {
			t.Errorf("the code %v of %v, %v is not whole: error %d", p.code, lit, dist, err)
		}
	}
}

// P8.3: all lengths 0: the code has one symbol alone, of one bit.
func TestPutLone(t *testing.T) {
	b, err := Put(api.Bits{}, many(257, 0), many(19, 0))
	if err != api.OK {
		t.Fatalf("Put: error %d", err)
	}
	if p := parse(text(b), 0); p.err != api.OK || !slices.Equal(p.code, codeOf(1, 18)) {
		t.Errorf("the code is %v, error %d", p.code, p.err)
	}
}

// P8.3: run symbols that come so seldom that their best codes have more than 7 bits, for which a header has no room.
func TestPutDeep(t *testing.T) {
	var lens []int
	for length, often := range []int{1, 1, 2, 3, 5, 8, 13, 21, 34, 41} {
		for range often {
			lens = append(lens, 15, length)
		}
	}
	freq := make([]int, 19)
	for _, length := range lens {
		freq[length]++
	}
	if best, _ := limit.Lengths(freq, api.MaxCode); slices.Max(best) < 8 {
		t.Fatalf("the best code is %v", best)
	}
	b, err := Put(api.Bits{}, lens[:257], lens[257:])
	p := parse(text(b), 0)
	if err != api.OK || p.err != api.OK || !slices.Equal(p.lit, lens[:257]) || !slices.Equal(p.dist, lens[257:]) || slices.Max(p.code) != 7 {
		t.Errorf("Put: error %d, which is read with error %d and the code %v", err, p.err, p.code)
	}
}

// P8.3: what Put refuses.
func TestPutRefused(t *testing.T) {
	refuses := func(b api.Bits, lit, dist []int) {
		t.Helper()
		if got, err := Put(b, lit, dist); got.N != 0 || len(got.B) != 0 || err != api.ErrArg {
			t.Errorf("Put(%v, %v, %v) = %v, error %d, want error %d", b, lit, dist, got, err, api.ErrArg)
		}
	}
	good := row("101")
	for _, b := range wrongRows() {
		refuses(b, many(257, 8), many(1, 0))
		refuses(b, nil, nil)
	}
	for _, n := range []int{0, 1, 30, 255, 256, 287, 288, 289, 316, 317} {
		refuses(good, many(n, 8), many(1, 1))
	}
	for _, n := range []int{0, 31, 32, 33, 257, 316} {
		refuses(good, many(257, 8), many(n, 5))
	}
	refuses(good, many(286, 8), nil)
	refuses(good, many(256, 8), many(2, 8))
	for _, lens := range slices.Concat(noLengths(257), noLengths(286)) {
		refuses(good, lens, many(30, 5))
	}
	for _, lens := range slices.Concat(noLengths(1), noLengths(30)) {
		refuses(good, many(257, 9), lens)
	}
}

// P8.4: b that is not right, and places that are none.
func TestReadArg(t *testing.T) {
	for _, b := range wrongRows() {
		for _, at := range []int{0, 1, -1, b.N} {
			answers(t, b, at, nil, nil, 0, api.ErrArg)
		}
	}
	good, _ := Put(row("011"), many(257, 8), many(3, 4))
	for _, at := range []int{-1, -3, good.N + 1, good.N + 8, 1 << 32, math.MaxInt, math.MinInt} {
		answers(t, good, at, nil, nil, 0, api.ErrArg)
	}
	answers(t, good, 3, many(257, 8), many(3, 4), good.N, api.OK)
	answers(t, good, good.N, nil, nil, 0, api.ErrShort)
	answers(t, api.Bits{}, 0, nil, nil, 0, api.ErrShort)
	answers(t, api.Bits{}, 1, nil, nil, 0, api.ErrArg)
}

// P8.4: more than 286 lit, or more than 30 dist, as soon as both are read.
func TestReadTooLarge(t *testing.T) {
	for lits := 257; lits <= 288; lits++ {
		for dists := 1; dists <= 32; dists++ {
			s := number(lits-257, 5) + number(dists-1, 5)
			want := api.ErrShort
			if lits > 286 || dists > 30 {
				want = api.ErrTooLarge
			}
			refused(t, s[:9], api.ErrShort)
			refused(t, s, want)
			refused(t, s+"000", want)
			if want == api.ErrTooLarge {
				refused(t, s+noise(400, uint32(lits)), want)
			}
		}
	}
	refused(t, "0111", api.ErrShort)
	refused(t, "01111", api.ErrShort)
}

// P8.4: huff.New's error of the run symbols' lengths, when all are read.
func TestReadCode(t *testing.T) {
	for _, c := range []struct {
		code  []int
		count int
		want  api.Errno
	}{
		{codeOf(0), 4, api.ErrUnder}, {codeOf(0), 19, api.ErrUnder}, {codeOf(2, 18), 5, api.ErrUnder}, {codeOf(7, 1), 19, api.ErrUnder}, {codeOf(2, 16, 17, 18), 4, api.ErrUnder},
		{codeOf(1, 16, 17, 18), 4, api.ErrOver}, {codeOf(2, 16, 17, 18, 0, 8), 5, api.ErrOver}, {codeOf(1, 0, 1, 15), 19, api.ErrOver}, {codeOf(4, placed()[:17]...), 17, api.ErrOver},
		{codeOf(1, 15), 18, api.ErrUnder},
	} {
		s := begun(257, 1, c.count, c.code)
		refused(t, s, c.want)
		refused(t, s+noise(500, 1), c.want)
		for n := range len(s) {
			refused(t, s[:n], api.ErrShort)
		}
	}
}

// P8.4: whichever of the run symbols' lengths are there, they are those of the symbols in the header's order.
func TestReadPlaced(t *testing.T) {
	for k, sym := range placed() {
		if sym > 15 {
			continue
		}
		other := (sym + 5) % 16
		code := codeOf(1, sym, other)
		l := slices.Concat(slices.Repeat([]api.Run{{Sym: sym}}, 260), slices.Repeat([]api.Run{{Sym: other}}, 27))
		for count := max(k, slices.Index(placed(), other)) + 1; count <= 19; count++ {
			s := begun(257, 30, count, code) + coded(code, l...)
			answers(t, row(s+"101"), 0, many(257, sym), append(many(3, sym), many(27, other)...), len(s), api.OK)
		}
	}
}

// P8.4: a code of one symbol alone, whose other bit is no code.
func TestReadLone(t *testing.T) {
	for sym := range 16 {
		code := codeOf(1, sym)
		s := begun(280, 20, 19, code) + coded(code, slices.Repeat([]api.Run{{Sym: sym}}, 300)...)
		answers(t, row(s), 0, many(280, sym), many(20, sym), len(s), api.OK)
		refused(t, s[:len(s)-1], api.ErrShort)
		refused(t, s[:len(s)-1]+"1", api.ErrCode)
		refused(t, s[:len(s)-300]+"1", api.ErrCode)
	}
	code := codeOf(1, 18)
	s := begun(257, 19, 4, code) + coded(code, api.Run{Sym: 18, V: 127}, api.Run{Sym: 18, V: 127})
	answers(t, row(s), 0, many(257, 0), many(19, 0), len(s), api.OK)
	refused(t, begun(257, 1, 4, codeOf(1, 16))+"1", api.ErrCode)
}

// P8.4: what is wrong with a run.
func TestReadRuns(t *testing.T) {
	code := codeOf(2, 16, 17, 18, 8)
	again, few, most := api.Run{Sym: 16, V: 3}, api.Run{Sym: 17, V: 7}, api.Run{Sym: 18, V: 127}
	s := begun(257, 5, 5, code)
	for v := range 4 {
		refused(t, s+coded(code, api.Run{Sym: 16, V: v}), api.ErrNone)
	}
	refused(t, s+coded(code, api.Run{Sym: 16})[:3], api.ErrShort)
	refused(t, s+coded(code, most)[:8], api.ErrShort)
	refused(t, s+coded(code, few)[:4], api.ErrShort)
	refused(t, s+coded(code, few)[:1], api.ErrShort)
	refused(t, s+coded(code, most, again, again), api.ErrShort)
	refused(t, s+coded(code, most, most), api.ErrTooLarge)
	refused(t, s+coded(code, most, most)[:17], api.ErrShort)
	refused(t, s+coded(code, most, most)+noise(70, 3), api.ErrTooLarge)
}

// P8.4: runs of each kind begin in lit and end in dist, and none ends behind it.
func TestReadAcross(t *testing.T) {
	code := codeOf(2, 16, 17, 18, 8)
	for _, last := range []api.Run{{Sym: 16, V: 3}, {Sym: 17, V: 3}, {Sym: 18, V: 0}} {
		more := ones(last, []int{8})
		lits, dists := 258, len(more)-2
		l := []api.Run{{Sym: 18, V: 127}, {Sym: 18, V: 106}, {Sym: 8}, last}
		runs := coded(code, l...)
		s := begun(lits, dists, 5, code) + runs
		answers(t, row(s+"11"), 0, append(many(255, 0), 8, more[0], more[1]), more[2:], len(s), api.OK)
		refused(t, begun(lits-1, dists, 5, code)+runs, api.ErrTooLarge)
		refused(t, begun(lits, dists-1, 5, code)+runs, api.ErrTooLarge)
		refused(t, begun(lits, dists+1, 5, code)+runs, api.ErrShort)
		refused(t, begun(lits+1, dists, 5, code)+runs, api.ErrShort)
	}
}

// P8.4: each beginning of a header is too short.
func TestReadShort(t *testing.T) {
	for seed := range uint32(12) {
		lit, dist := stretched(257+int(seed), seed), stretched(1+2*int(seed), seed+1)
		b, err := Put(row("10"), lit, dist)
		if err != api.OK {
			t.Fatalf("Put: error %d", err)
		}
		s := text(b)
		for n := 2; n < len(s); n++ {
			answers(t, row(s[:n]), 2, nil, nil, 0, api.ErrShort)
		}
		answers(t, b, 2, lit, dist, len(s), api.OK)
	}
}

// P8.4: Read answers of headers with bits that are turned, and of any bits, what the document words.
func TestReadWorded(t *testing.T) {
	seen := map[api.Errno]int{}
	for seed := range uint32(3000) {
		lits, dists := 257+rising(&seed)%30, 1+rising(&seed)%30
		b, _ := Put(api.Bits{}, stretched(lits, seed), stretched(dists, seed))
		s := []byte(text(b) + noise(40, seed))
		for range rising(&seed) % 4 {
			s[rising(&seed)%len(s)] ^= 1
		}
		for range rising(&seed) % 2 {
			s[rising(&seed)%80] ^= 1
		}
		reads(t, string(s), 0)
		reads(t, string(s[:rising(&seed)%len(s)]), 0)
		reads(t, noise(200, seed), rising(&seed)%100)
		seen[parse(string(s), 0).err]++
	}
	for _, err := range []api.Errno{api.OK, api.ErrTooLarge, api.ErrShort, api.ErrOver, api.ErrUnder} {
		if seen[err] == 0 {
			t.Errorf("no header was answered by error %d", err)
		}
	}
}

// P8.5: Unpack of Pack is the list.
func TestUnpackPack(t *testing.T) {
	for _, lens := range lists() {
		l, _ := Pack(lens)
		unpacks(t, l, len(lens), lens, api.OK)
	}
}

// P8.5: Read of Put are the lengths, whatever stands ahead and behind.
func TestBack(t *testing.T) {
	k := uint32(0)
	for lit, dist := range blocks {
		ahead := noise(int(k%23), k)
		b, err := Put(row(ahead), lit, dist)
		if err != api.OK {
			t.Fatalf("Put: error %d", err)
		}
		whole, err := bits.Join(b, row(noise(int(k%13), k)))
		if err != api.OK {
			t.Fatalf("Join: error %d", err)
		}
		answers(t, whole, len(ahead), lit, dist, b.N, api.OK)
		k++
	}
}

// counted tells how often bytes come, and the end of a block once.
func counted(data []byte) []int {
	freq := make([]int, 257)
	for _, c := range data {
		freq[c]++
	}
	freq[256] = 1
	return freq
}

// samples are bytes of some kinds.
func samples() [][]byte {
	seed := uint32(1)
	mixture := make([]byte, 3000)
	for k := range mixture {
		mixture[k] = byte(rising(&seed) >> 8)
	}
	return [][]byte{[]byte("a"), []byte(strings.Repeat("a header is packed, and packed again. ", 40)), mixture, bytes.Repeat([]byte{0, 255}, 500), []byte(strings.Repeat("0123456789", 77))}
}

// P8.3: a block behind a header is read by another program as RFC 1951 has it.
func TestPutElsewhere(t *testing.T) {
	for _, data := range samples() {
		lit, _ := limit.Lengths(counted(data), api.MaxCode)
		b, err := Put(row("101"), lit, []int{0})
		if err != api.OK {
			t.Fatalf("Put: error %d", err)
		}
		for _, c := range data {
			b, _ = huff.Put(b, lit, int(c))
		}
		b, _ = huff.Put(b, lit, 256)
		if got, err := io.ReadAll(flate.NewReader(bytes.NewReader(b.B))); err != nil || !bytes.Equal(got, data) {
			t.Errorf("%d bytes are read as %d: %v", len(data), len(got), err)
		}
	}
}

// P8.4: a header of another program is read as RFC 1951 has it.
func TestReadElsewhere(t *testing.T) {
	dynamic := 0
	for _, data := range samples() {
		var packed bytes.Buffer
		w, _ := flate.NewWriter(&packed, flate.HuffmanOnly)
		w.Write(data)
		w.Close()
		b := bits.Of(packed.Bytes())
		if kind, _ := bits.Get(b, 1, 2); kind != 2 {
			continue
		}
		dynamic++
		lit, _, at, err := Read(b, 3)
		if err != api.OK {
			t.Fatalf("Read of a header of %d bytes: error %d", len(data), err)
		}
		table, err := huff.New(lit)
		if err != api.OK {
			t.Fatalf("the lengths %v are no code: error %d", lit, err)
		}
		var got []byte
		sym := 0
		for sym, at, err = table.Read(b, at); sym < 256 && err == api.OK; sym, at, err = table.Read(b, at) {
			got = append(got, byte(sym))
		}
		if sym != 256 || err != api.OK || !bytes.Equal(got, data) {
			t.Errorf("%d bytes are read as %d, and %d, error %d", len(data), len(got), sym, err)
		}
	}
	if dynamic == 0 {
		t.Error("no header was made")
	}
}

// spoil changes all that a list of an answer has, behind its end, too.
func spoil[T any](l []T, bad T) {
	for k := range l[:cap(l)] {
		l[:cap(l)][k] = bad
	}
}

// The rules that hold everywhere: what is handed in stays, behind its end, too; no two answers and no two lists of one share memory.
func TestShared(t *testing.T) {
	memory, store := mixed(400, 5), bytes.Repeat([]byte{0x55}, 400)
	before, stored := slices.Clone(memory), slices.Clone(store)
	lit, dist, b := memory[:260], memory[300:320], api.Bits{B: store[:1], N: 7}
	list := slices.Repeat([]api.Run{{Sym: 9}}, 10)
	listed := slices.Clone(list)
	for range 2 {
		packed, _ := Pack(lit)
		if got, err := told(packed, 260); !slices.Equal(got, lit) || err != api.OK {
			t.Errorf("Pack tells %v, error %d", got, err)
		}
		lens, err := Unpack(list[:5], 5)
		if !slices.Equal(lens, many(5, 9)) || err != api.OK {
			t.Errorf("Unpack tells %v, error %d", lens, err)
		}
		laid, err := Put(b, lit, dist)
		if p := parse(text(laid), 7); !slices.Equal(p.lit, lit) || !slices.Equal(p.dist, dist) || err != api.OK {
			t.Errorf("Put tells %v, error %d", laid, err)
		}
		gotLit, gotDist, _, _ := Read(laid, 7)
		spoil(gotLit, -1)
		if !slices.Equal(gotDist, dist) {
			t.Errorf("both lists of Read share memory: %v", gotDist)
		}
		spoil(gotDist, -1)
		answers(t, laid, 7, lit, dist, laid.N, api.OK)
		spoil(packed, api.Run{Sym: -1})
		spoil(lens, -1)
		spoil(laid.B, 0xaa)
	}
	if !slices.Equal(memory, before) || !bytes.Equal(store, stored) || !slices.Equal(list, listed) {
		t.Error("what was handed in is another one")
	}
}
