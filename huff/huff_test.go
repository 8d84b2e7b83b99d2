package huff

import (
	"bytes"
	"math"
	"math/big"
	"slices"
	"strings"
	"testing"

	"valise/api"
	"valise/bits"
)

// rising tells the next number that follows no simple pattern.
func rising(seed *uint32) int {
	*seed = *seed*1664525 + 1013904223
	return int(*seed >> 8)
}

// many tells n times the same length.
func many(n, length int) []int {
	return slices.Repeat([]int{length}, n)
}

// fixed are the lengths of DEFLATE's fixed code.
func fixed() []int {
	return slices.Concat(many(144, 8), many(112, 9), many(24, 7), many(8, 8))
}

// steep are the lengths 1, 2, .. n, n.
func steep(n int) []int {
	var lens []int
	for length := 1; length <= n; length++ {
		lens = append(lens, length)
	}
	return append(lens, n)
}

// mixed tells lengths of a whole code of n symbols, at least two, among symbols that are not used, others for each seed.
func mixed(n int, seed uint32) []int {
	lens := []int{1, 1}
	for len(lens) < n {
		if k := rising(&seed) % len(lens); lens[k] < api.MaxCode {
			lens[k]++
			lens = append(lens, lens[k])
		}
	}
	for range min(n, api.MaxSymbols-n) {
		lens = slices.Insert(lens, rising(&seed)%(len(lens)+1), 0)
	}
	for k := range lens {
		other := rising(&seed) % (k + 1)
		lens[k], lens[other] = lens[other], lens[k]
	}
	return lens
}

// wholes are lengths that take just 1.
func wholes() [][]int {
	l := [][]int{
		{1, 1}, {2, 1, 3, 3}, {0, 1, 0, 1, 0}, {1, 2, 2}, {2, 2, 1}, {2, 2, 2, 2}, {3, 3, 2, 1},
		many(32, 5), many(256, 8), fixed(), slices.Concat(many(32, 0), many(256, 8)), slices.Concat(many(224, 8), many(64, 9)),
	}
	for n := 1; n <= api.MaxCode; n++ {
		turned := steep(n)
		slices.Reverse(turned)
		l = append(l, steep(n), turned)
	}
	for n := 2; n <= api.MaxSymbols; n += 1 + n/3 {
		for seed := range uint32(4) {
			l = append(l, mixed(n, seed))
		}
	}
	return append(l, mixed(api.MaxSymbols, 7))
}

// unders are lengths that take less than 1.
func unders() [][]int {
	l := [][]int{{0}, {1}, {15}, {0, 1}, {1, 0}, {1, 2}, {2, 2, 2}, {3, 0, 1}, {0, 0, 2}, many(api.MaxSymbols, 0), many(api.MaxSymbols, 15), many(30, 5), many(255, 8), many(api.MaxSymbols, 9)}
	for _, lens := range wholes() {
		k := slices.IndexFunc(lens, func(length int) bool { return length != 0 })
		lens[k] = 0
		l = append(l, lens)
	}
	return append(l, steep(15)[:15])
}

// overs are lengths that take more than 1.
func overs() [][]int {
	l := [][]int{{1, 1, 1}, {1, 1, 15}, {1, 2, 2, 15}, {2, 1, 3, 3, 15}, many(5, 2), many(33, 5), many(257, 8), many(api.MaxSymbols, 1), many(api.MaxSymbols, 8), append(many(256, 8), 15)}
	for _, lens := range wholes() {
		if k := slices.Index(lens, 0); k >= 0 {
			lens[k] = 15
			l = append(l, lens)
		}
		if len(lens) < api.MaxSymbols {
			l = append(l, append([]int{15}, lens...))
		}
	}
	return l
}

// noLengths are none, some of them with so many codes that they would be too many, too.
func noLengths() [][]int {
	l := [][]int{nil, {}, many(289, 0), many(289, 1), many(289, 15), many(1000, 9), append(mixed(api.MaxSymbols, 1), 0)}
	for _, length := range []int{-1, -2, -15, 16, 17, 32, 63, 64, 65, math.MaxInt, math.MinInt} {
		l = append(l, []int{length}, []int{length, 1, 1}, []int{1, 1, length}, []int{1, 1, 1, 1, length}, []int{1, length}, append(many(287, 9), length))
	}
	return l
}

// small goes through all lists of n lengths from 0 to most.
func small(n, most int) [][]int {
	l := [][]int{nil}
	for range n {
		var longer [][]int
		for _, lens := range l {
			for length := range most + 1 {
				longer = append(longer, append(slices.Clone(lens), length))
			}
		}
		l = longer
	}
	return l
}

// smalls are all short lists of lengths.
func smalls() [][]int {
	return slices.Concat(small(1, 15), small(2, 15), small(3, 5), small(4, 4), small(5, 3))
}

// valued tells what Check answers of lengths as the document words it, without help of the package.
func valued(lens []int) api.Errno {
	sum := new(big.Rat)
	for _, length := range lens {
		if length != 0 {
			sum.Add(sum, big.NewRat(1, 1<<length))
		}
	}
	return []api.Errno{api.ErrUnder, api.OK, api.ErrOver}[sum.Cmp(big.NewRat(1, 1))+1]
}

// worded tells the symbols' codes as texts of 0 and 1, the highest bit first, as the document words them, without help of the package.
func worded(lens []int) []string {
	texts := make([]string, len(lens))
	code, last := -1, 0
	for length := 1; length <= 15; length++ {
		for sym := range lens {
			if lens[sym] != length {
				continue
			}
			code++
			for ; last != 0 && last < length; last++ {
				code *= 2
			}
			last = length
			text := new(big.Int).SetInt64(int64(code)).Text(2)
			texts[sym] = strings.Repeat("0", length-len(text)) + text
		}
	}
	return texts
}

// row tells the row of a text of 0 and 1, without help of the package.
func row(text string) api.Bits {
	b := api.Bits{N: len(text)}
	for k, c := range text {
		if k%8 == 0 {
			b.B = append(b.B, 0)
		}
		b.B[k/8] |= byte(c-'0') << (k % 8)
	}
	return b
}

// text tells n bits that follow no simple pattern as a text, others for each seed.
func text(n int, seed uint32) string {
	var s strings.Builder
	for range n {
		s.WriteByte('0' + byte(rising(&seed)>>16&1))
	}
	return s.String()
}

// find tells what Read answers of a text of 0 and 1 at a place, by the codes as texts alone.
func find(texts []string, bits string, at int) (int, int, api.Errno) {
	for end := at + 1; end <= len(bits); end++ {
		begun := false
		for sym, code := range texts {
			if code == bits[at:end] {
				return sym, end, api.OK
			}
			begun = begun || strings.HasPrefix(code, bits[at:end])
		}
		if !begun {
			return 0, 0, api.ErrCode
		}
	}
	return 0, 0, api.ErrShort
}

// lone are lengths of which one alone is used, whose length is 1.
func lone() [][]int {
	last := many(api.MaxSymbols, 0)
	last[api.MaxSymbols-1] = 1
	return [][]int{{1}, {0, 1}, {1, 0}, {0, 0, 1, 0}, append([]int{1}, many(287, 0)...), last}
}

// table is New of what may be a table.
func table(t *testing.T, lens []int) *Table {
	t.Helper()
	got, err := New(lens)
	if err != api.OK || got == nil {
		t.Fatalf("New(%v): %v, error %d", lens, got, err)
	}
	return got
}

// reads fails if Read answers anything else.
func reads(t *testing.T, table *Table, b api.Bits, at, sym, behind int, want api.Errno) {
	t.Helper()
	gotSym, gotBehind, err := table.Read(b, at)
	if gotSym != sym || gotBehind != behind || err != want {
		t.Fatalf("Read(%v, %d) = %d, %d, error %d, want %d, %d, error %d", b, at, gotSym, gotBehind, err, sym, behind, want)
	}
}

// P4.1: Check tells whether lengths take just 1.
func TestCheck(t *testing.T) {
	for want, l := range map[api.Errno][][]int{api.OK: wholes(), api.ErrUnder: slices.Concat(unders(), lone()), api.ErrOver: overs(), api.ErrArg: noLengths()} {
		for _, lens := range l {
			if err := Check(lens); err != want {
				t.Errorf("Check(%v) = %d, want %d", lens, err, want)
			}
		}
	}
	for _, lens := range smalls() {
		if err, want := Check(lens), valued(lens); err != want {
			t.Errorf("Check(%v) = %d, want %d", lens, err, want)
		}
	}
}

// P4.1: Codes tells the codes as numbers.
func TestCodes(t *testing.T) {
	for _, c := range []struct{ lens, want []int }{
		{[]int{2, 1, 3, 3}, []int{2, 0, 6, 7}}, {[]int{1, 2}, []int{0, 2}}, {[]int{0, 1}, []int{0, 0}}, {[]int{0}, []int{0}}, {[]int{15}, []int{0}}, {[]int{0, 2, 0, 2, 3}, []int{0, 0, 0, 1, 4}},
		{[]int{3, 3, 3, 3, 3, 2, 4, 4}, []int{2, 3, 4, 5, 6, 0, 14, 15}}, {steep(15), []int{0, 2, 6, 14, 30, 62, 126, 254, 510, 1022, 2046, 4094, 8190, 16382, 32766, 32767}},
	} {
		if got, err := Codes(c.lens); err != api.OK || !slices.Equal(got, c.want) {
			t.Errorf("Codes(%v) = %v, error %d, want %v", c.lens, got, err, c.want)
		}
	}
	got, err := Codes(fixed())
	if err != api.OK || len(got) != 288 {
		t.Fatalf("Codes of the fixed lengths: %v, error %d", got, err)
	}
	for sym, want := range map[int]int{0: 0x30, 143: 0xbf, 144: 0x190, 255: 0x1ff, 256: 0, 279: 0x17, 280: 0xc0, 287: 0xc7} {
		if got[sym] != want {
			t.Errorf("the fixed code of %d is %x, want %x", sym, got[sym], want)
		}
	}
}

// P4.1: the codes are those that the document words, of lengths that leave room, too.
func TestCodesWorded(t *testing.T) {
	for _, lens := range slices.Concat(wholes(), unders(), lone(), smalls()) {
		if valued(lens) == api.ErrOver {
			continue
		}
		got, err := Codes(lens)
		if err != api.OK || len(got) != len(lens) {
			t.Fatalf("Codes(%v) = %v, error %d", lens, got, err)
		}
		for sym, text := range worded(lens) {
			want, _ := new(big.Int).SetString("0"+text, 2)
			if got[sym] != int(want.Int64()) {
				t.Fatalf("Codes(%v): of %d %d, want %s", lens, sym, got[sym], text)
			}
		}
	}
}

// P4.1: what has no codes.
func TestCodesRefused(t *testing.T) {
	for want, l := range map[api.Errno][][]int{api.ErrOver: overs(), api.ErrArg: noLengths()} {
		for _, lens := range l {
			if got, err := Codes(lens); len(got) != 0 || err != want {
				t.Errorf("Codes(%v) = %v, error %d, want error %d", lens, got, err, want)
			}
		}
	}
}

// P4.2: Put lays a code, its highest bit first, behind what is there.
func TestPut(t *testing.T) {
	got, err := Put(api.Bits{}, []int{2, 1, 3, 3}, 2)
	if err != api.OK || got.N != 3 || !bytes.Equal(got.B, []byte{3}) {
		t.Errorf("Put(nothing, 2 1 3 3, 2) = %v, error %d", got, err)
	}
	for _, lens := range slices.Concat(wholes(), unders(), lone(), small(4, 3)) {
		if valued(lens) == api.ErrOver {
			continue
		}
		for sym, code := range worded(lens) {
			ahead := text(sym%19, uint32(sym))
			got, err := Put(row(ahead), lens, sym)
			want, fault := row(ahead+code), api.OK
			if code == "" {
				want, fault = api.Bits{}, api.ErrCode
			}
			if err != fault || got.N != want.N || !bytes.Equal(got.B, want.B) {
				t.Fatalf("Put(%s, %v, %d) = %v, error %d, want %v, error %d", ahead, lens, sym, got, err, want, fault)
			}
		}
	}
}

// wrongRows are rows that are not right.
func wrongRows() []api.Bits {
	return []api.Bits{{N: -1}, {N: 1}, {N: math.MinInt}, {N: math.MaxInt}, {B: []byte{0}}, {B: []byte{8}, N: 3}, {B: []byte{0}, N: 9}, {B: []byte{0, 0}, N: 8}, {B: []byte{0}, N: -8}}
}

// P4.2: what Put refuses: ErrArg ahead of ErrOver, and this ahead of ErrCode.
func TestPutRefused(t *testing.T) {
	whole, over := []int{2, 1, 0, 3, 3}, []int{1, 1, 0, 1}
	good := row("101")
	refused := func(b api.Bits, lens []int, sym int, want api.Errno) {
		t.Helper()
		if got, err := Put(b, lens, sym); err != want || got.N != 0 || len(got.B) != 0 {
			t.Errorf("Put(%v, %v, %d) = %v, error %d, want error %d", b, lens, sym, got, err, want)
		}
	}
	for _, lens := range [][]int{whole, over, {1, 2}, {0}} {
		for _, sym := range []int{-1, -2, len(lens), len(lens) + 1, 15, 288, math.MaxInt, math.MinInt} {
			refused(good, lens, sym, api.ErrArg)
		}
		for _, b := range wrongRows() {
			refused(b, lens, 0, api.ErrArg)
			refused(b, lens, 2, api.ErrArg)
		}
	}
	for _, lens := range noLengths() {
		for _, sym := range []int{-1, 0, 1, 4, 288} {
			refused(good, lens, sym, api.ErrArg)
		}
	}
	refused(good, over, 0, api.ErrOver)
	refused(good, over, 2, api.ErrOver)
	refused(good, whole, 2, api.ErrCode)
	refused(good, []int{0}, 0, api.ErrCode)
	refused(good, []int{0, 1}, 0, api.ErrCode)
	refused(api.Bits{}, many(api.MaxSymbols, 0), api.MaxSymbols-1, api.ErrCode)
}

// P4.3: which lengths are a table: those of a whole code, and one alone of length 1.
func TestNew(t *testing.T) {
	for _, lens := range slices.Concat(wholes(), lone()) {
		table(t, lens)
	}
	for want, l := range map[api.Errno][][]int{api.ErrUnder: {{2}, {15}, {0, 2}, {0, 15, 0}, {0}, {0, 0}, {1, 2}, {1, 15}, many(30, 5)}, api.ErrOver: overs(), api.ErrArg: noLengths()} {
		for _, lens := range l {
			if got, err := New(lens); got != nil || err != want {
				t.Errorf("New(%v) = %v, error %d, want error %d", lens, got, err, want)
			}
		}
	}
	for _, lens := range slices.Concat(unders(), smalls()) {
		want := valued(lens)
		if isOne(lens) {
			want = api.OK
		}
		if got, err := New(lens); err != want || (got != nil) != (want == api.OK) {
			t.Errorf("New(%v) = %v, error %d, want error %d", lens, got, err, want)
		}
	}
}

// isOne tells whether lengths are 0 but for a single 1, without help of the package.
func isOne(lens []int) bool {
	sorted := slices.Sorted(slices.Values(lens))
	last := len(sorted) - 1
	return sorted[last] == 1 && (last == 0 || sorted[last-1] == 0)
}

// P4.3: Read tells the symbol whose code stands at a place, and the place behind it.
func TestRead(t *testing.T) {
	four := table(t, []int{2, 1, 3, 3})
	b := row("110" + "0" + "111" + "10" + "11")
	reads(t, four, b, 0, 2, 3, api.OK)
	reads(t, four, b, 1, 0, 3, api.OK)
	reads(t, four, b, 3, 1, 4, api.OK)
	reads(t, four, b, 4, 3, 7, api.OK)
	reads(t, four, b, 7, 0, 9, api.OK)
	reads(t, four, b, 9, 0, 0, api.ErrShort)
	reads(t, four, b, 10, 0, 0, api.ErrShort)
	reads(t, four, b, 11, 0, 0, api.ErrShort)
	for _, at := range []int{12, 16, 17, -1, math.MaxInt, math.MinInt} {
		reads(t, four, b, at, 0, 0, api.ErrArg)
	}
	reads(t, four, api.Bits{}, 0, 0, 0, api.ErrShort)
	reads(t, four, api.Bits{B: []byte{}}, 1, 0, 0, api.ErrArg)
	for _, wrong := range wrongRows() {
		for _, at := range []int{0, 1, -1} {
			reads(t, four, wrong, at, 0, 0, api.ErrArg)
		}
	}
}

// P4.3: a table of one code alone: whatever begins with a 1 is no code, and says so ahead of its end.
func TestReadLone(t *testing.T) {
	for _, lens := range lone() {
		one, sym := table(t, lens), slices.Index(lens, 1)
		reads(t, one, row("0"), 0, sym, 1, api.OK)
		reads(t, one, row("100"), 2, sym, 3, api.OK)
		reads(t, one, row("1"), 0, 0, 0, api.ErrCode)
		reads(t, one, row("010"), 1, 0, 0, api.ErrCode)
		reads(t, one, row("0"), 1, 0, 0, api.ErrShort)
		reads(t, one, api.Bits{}, 0, 0, 0, api.ErrShort)
		reads(t, one, row("0"), 2, 0, 0, api.ErrArg)
	}
}

// P4.3: no table answers ErrNil ahead of all else.
func TestReadNil(t *testing.T) {
	for _, none := range []*Table{nil, {}, new(Table)} {
		for _, b := range append(wrongRows(), api.Bits{}, row("0110")) {
			for _, at := range []int{-1, 0, 1, 100} {
				reads(t, none, b, at, 0, 0, api.ErrNil)
			}
		}
	}
}

// P4.3: Read answers of any bits at any place what the codes alone say.
func TestReadWorded(t *testing.T) {
	for _, lens := range slices.Concat(wholes(), lone()) {
		got, texts := table(t, lens), worded(lens)
		for seed := range uint32(3) {
			s := text(40, seed)
			for at := range len(s) + 1 {
				sym, behind, err := find(texts, s, at)
				reads(t, got, row(s), at, sym, behind, err)
			}
		}
	}
}

// P4.4: what was put, symbol by symbol, is read, whatever stands ahead and behind.
func TestBack(t *testing.T) {
	for n, lens := range slices.Concat(wholes(), lone()) {
		var syms []int
		for sym, length := range lens {
			if length != 0 {
				syms = slices.Insert(syms, (sym*7+n)%(len(syms)+1), sym)
			}
		}
		b := row(text(n%11, uint32(n)))
		for _, sym := range syms {
			var err api.Errno
			if b, err = Put(b, lens, sym); err != api.OK {
				t.Fatalf("Put(.., %v, %d): error %d", lens, sym, err)
			}
		}
		end := b.N
		b, err := bits.Join(b, row(text(n%9, uint32(n))))
		if err != api.OK {
			t.Fatalf("Join: error %d", err)
		}
		at, got := n%11, table(t, lens)
		for _, sym := range syms {
			reads(t, got, b, at, sym, at+lens[sym], api.OK)
			at += lens[sym]
		}
		if at != end {
			t.Errorf("read up to %d, put up to %d", at, end)
		}
	}
}

// P4.5: no code begins with another one; of one length they rise with the symbols.
func TestApart(t *testing.T) {
	for _, lens := range slices.Concat(wholes(), unders(), lone()) {
		codes, err := Codes(lens)
		if err != api.OK {
			t.Fatalf("Codes(%v): error %d", lens, err)
		}
		for a, short := range lens {
			if short == 0 {
				continue
			}
			if codes[a] < 0 || codes[a] >= 1<<short {
				t.Fatalf("the code of %d in %v is %d", a, lens, codes[a])
			}
			for b, long := range lens {
				if a != b && long >= short && codes[b]>>(long-short) == codes[a] {
					t.Fatalf("the code of %d in %v begins with that of %d", b, lens, a)
				}
				if a < b && long == short && codes[a] >= codes[b] {
					t.Fatalf("the codes of %d and %d in %v do not rise", a, b, lens)
				}
			}
		}
	}
}

// P4.6: of a whole code whatever bits are read are some code, as soon as there are enough.
func TestWhole(t *testing.T) {
	for _, lens := range wholes() {
		got, longest := table(t, lens), slices.Max(lens)
		seen := make([]int, len(lens))
		for v := range 1 << longest {
			s := make([]byte, longest)
			for k := range s {
				s[k] = '0' + byte(v>>(longest-1-k)&1)
			}
			sym, behind, err := got.Read(row(string(s)), 0)
			if err != api.OK || behind != lens[sym] {
				t.Fatalf("Read of %s with %v = %d, %d, error %d", s, lens, sym, behind, err)
			}
			seen[sym]++
			reads(t, got, row(string(s[:behind-1])), 0, 0, 0, api.ErrShort)
		}
		for sym, length := range lens {
			if length != 0 && seen[sym] != 1<<(longest-length) {
				t.Fatalf("%d in %v was read %d times", sym, lens, seen[sym])
			}
		}
	}
}

// The rules that hold everywhere: what is handed in stays, behind its end, too, and is not kept; no two answers share memory.
func TestShared(t *testing.T) {
	memory := []int{3, 2, 0, 1, 3, 1, 1, 99}
	before := slices.Clone(memory)
	lens := memory[:5]
	first, _ := Codes(lens)
	second, _ := Codes(lens)
	for k := range first[:cap(first)] {
		first[:cap(first)][k] = -1
	}
	if !slices.Equal(second, []int{6, 2, 0, 0, 7}) {
		t.Errorf("two answers of Codes share memory: %v", second)
	}
	store := []byte{0x05, 0x55, 0x55, 0x55}
	b := api.Bits{B: store[:1], N: 3}
	one, _ := Put(b, lens, 0)
	two, _ := Put(b, lens, 0)
	for k := range one.B[:cap(one.B)] {
		one.B[:cap(one.B)][k] ^= 0xff
	}
	if !bytes.Equal(store, []byte{0x05, 0x55, 0x55, 0x55}) || two.N != 6 || !bytes.Equal(two.B, []byte{0x1d}) {
		t.Errorf("answers of Put share memory: %x, %v", store, two)
	}
	got := table(t, lens)
	if !slices.Equal(memory, before) {
		t.Errorf("the lengths are %v, were %v", memory, before)
	}
	for k := range memory {
		memory[k] = 1
	}
	for range 2 {
		reads(t, got, two, 3, 0, 6, api.OK)
		reads(t, got, row("1110"), 3, 3, 4, api.OK)
	}
	if _, err := New(memory); err != api.ErrOver {
		t.Errorf("New of too many codes: error %d", err)
	}
	reads(t, got, row("10"), 0, 1, 2, api.OK)
}
