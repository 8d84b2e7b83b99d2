package match

import (
	"bytes"
	"math"
	"slices"
	"strconv"
	"strings"
	"testing"

	"valise/api"
)

// rising tells the next number that follows no simple pattern.
func rising(seed *uint32) int {
	*seed = *seed*1664525 + 1013904223
	return int(*seed >> 8)
}

// many tells n times the same byte.
func many(n int, x byte) []byte {
	return bytes.Repeat([]byte{x}, n)
}

// mixed tells n bytes of the lowest kinds numbers, in no simple order, others for each seed.
func mixed(n, kinds int, seed uint32) []byte {
	b := make([]byte, n)
	for k := range b {
		b[k] = byte(rising(&seed) >> 4 % kinds)
	}
	return b
}

// counted tells n bytes in which no three stand twice, up to some 16000 bytes.
func counted(n int) []byte {
	var b []byte
	for k := 0; len(b) < n; k++ {
		b = append(b, byte(128+k>>7), byte(k&127), byte(255-k>>7&127))
	}
	return b[:n]
}

// lits tells bytes as tokens that are bytes.
func lits(b []byte) []api.Token {
	var l []api.Token
	for _, x := range b {
		l = append(l, lit(x))
	}
	return l
}

// lit is a byte, as a token.
func lit(x byte) api.Token { return api.Token{Lit: x} }

// copied is a copy.
func copied(length, dist int) api.Token { return api.Token{Len: length, Dist: dist} }

// inputs are bytes of all kinds, up to as many as may be.
func inputs() [][]byte {
	l := [][]byte{
		nil, {}, {0}, {255}, []byte("ab"), []byte("abc"), []byte("abcabc"), []byte("ababac"), []byte("abcdabc"), []byte("abcdabcd"), []byte("abcabcabcabcabcabcabcab"), []byte("abcxyzabcdabcd"), []byte("aaabaaabaaacaaad"),
		[]byte(strings.Repeat("the quick brown fox jumps over the lazy dog. ", 40)), append(many(300, 'x'), many(300, 'y')...), slices.Concat(many(257, 0), []byte{1}, many(259, 0)),
		bytes.Repeat(counted(258), 5), bytes.Repeat(counted(259), 5), bytes.Repeat(counted(10000), 6), mixed(api.MaxFile, 256, 1), mixed(api.MaxFile, 2, 2), mixed(api.MaxFile, 20, 3), many(api.MaxFile, 7),
	}
	for _, n := range []int{4, 10, 100, 3000} {
		for _, kinds := range []int{1, 2, 3, 8, 256} {
			l = append(l, mixed(n, kinds, uint32(n+kinds)))
		}
	}
	return append(l, apart(api.MaxWindow-1), apart(api.MaxWindow), apart(api.MaxWindow+1), apart(api.MaxFile-20))
}

// apart are bytes of which some stand twice, as far apart as told, and what is between has not three of them.
func apart(dist int) []byte {
	some := []byte{1, 2, 3, 4, 5, 6, 7, 8, 9, 10}
	return slices.Concat(some, many(dist-len(some), 0), some)
}

// depths are how deep may be looked, from end to end.
func depths() []int { return []int{1, 2, 3, 32, api.MaxDeep - 1, api.MaxDeep} }

// tokens are lists of tokens that tell something.
func tokens() [][]api.Token {
	l := [][]api.Token{
		nil, {}, lits([]byte("a")), lits([]byte{0}), {lit('a'), lit('b'), copied(3, 2), lit('c')}, {lit('a'), copied(3, 1)}, {lit('a'), copied(258, 1), copied(258, 259), copied(258, 258)}, {lit(1), lit(2), lit(3), copied(3, 3), copied(4, 3), copied(100, 7)},
		append(lits(counted(300)), copied(258, 300), copied(3, 1), copied(258, 2), lit(0)),
		append(lits(mixed(api.MaxWindow, 256, 1)), copied(258, api.MaxWindow), copied(3, api.MaxWindow), copied(5, api.MaxWindow-1), lit(9), copied(258, 1)),
		lits(mixed(api.MaxFile, 256, 3)), append([]api.Token{lit(4)}, slices.Repeat([]api.Token{copied(257, 1)}, 255)...),
	}
	for seed := range uint32(40) {
		l = append(l, some(seed))
	}
	return l
}

// some are tokens in no simple order, others for each seed.
func some(seed uint32) []api.Token {
	l, n := []api.Token{lit(byte(seed))}, 1
	for range 60 {
		t := lit(byte(rising(&seed)))
		if rising(&seed)>>4%2 == 0 {
			t = copied(3+rising(&seed)%256>>(rising(&seed)%9), 1+rising(&seed)%n)
		}
		l, n = append(l, t), n+max(t.Len, 1)
	}
	return l
}

// noTokens are neither bytes nor copies.
func noTokens() []api.Token {
	l := []api.Token{{Len: 3}, {Len: 258}, {Len: 1}, {Dist: 1}, {Dist: 32768}, {Len: 1, Lit: 'a'}, {Dist: 1, Lit: 'a'}, {Len: -1}, {Dist: -1}, {Len: -3, Dist: -1}}
	for _, length := range []int{-258, -3, -1, 1, 2, 259, 260, 32768, math.MaxInt, math.MinInt} {
		l = append(l, copied(length, 1), copied(length, 32768), copied(length, 0), api.Token{Len: length, Dist: 1, Lit: 1})
	}
	for _, dist := range []int{-32768, -1, 0, 32769, 32770, 65536, math.MaxInt, math.MinInt} {
		l = append(l, copied(3, dist), copied(258, dist), api.Token{Len: 3, Dist: dist, Lit: 1})
	}
	for _, x := range []byte{1, 'a', 255} {
		l = append(l, api.Token{Len: 3, Dist: 1, Lit: x}, api.Token{Len: 258, Dist: 32768, Lit: x})
	}
	return l
}

// expanded tells what tokens tell as the document words it, without help of the package: each byte is looked up at its own place.
func expanded(l []api.Token) []byte {
	n := 0
	for _, t := range l {
		n += max(t.Len, 1)
	}
	b, at := make([]byte, n), 0
	for _, t := range l {
		if t.Len == 0 {
			b[at] = t.Lit
		}
		for k := range t.Len {
			b[at+k] = b[at+k-t.Dist]
		}
		at += max(t.Len, 1)
	}
	return b
}

// short tells the beginning of a list that is too long to be shown.
func short(b []byte) string {
	return strconv.Itoa(len(b)) + " bytes " + strconv.Quote(string(b[:min(len(b), 60)]))
}

// answered is Expand of what tells something; it fails if it is refused.
func answered(t *testing.T, l []api.Token, most int) []byte {
	t.Helper()
	b, err := Expand(l, most)
	if err != api.OK {
		t.Fatalf("Expand(%d tokens, %d): error %d", len(l), most, err)
	}
	return b
}

// refused fails if Expand does not answer that error, and nothing beside it.
func refused(t *testing.T, l []api.Token, most int, want api.Errno) {
	t.Helper()
	if b, err := Expand(l, most); len(b) != 0 || err != want {
		t.Errorf("Expand(%v, %d) = %s, error %d, want error %d", l[:min(len(l), 6)], most, short(b), err, want)
	}
}

// found is Find of bytes; it fails if what it tells are no tokens that tell these.
func found(t *testing.T, b []byte, depth int) []api.Token {
	t.Helper()
	l, err := Find(b, depth)
	if err != api.OK {
		t.Fatalf("Find(%s, %d): error %d", short(b), depth, err)
	}
	n := 0
	for _, token := range l {
		if !mayBe(token) || token.Dist > n {
			t.Fatalf("Find(%s, %d): the token %v behind %d bytes", short(b), depth, token, n)
		}
		n += max(token.Len, 1)
	}
	if n != len(b) || len(l) > len(b) || !bytes.Equal(expanded(l), b) {
		t.Fatalf("Find(%s, %d) tells %d bytes by %d tokens", short(b), depth, n, len(l))
	}
	return l
}

// mayBe tells whether a token may be, as the document words it, in numbers.
func mayBe(t api.Token) bool {
	if t.Lit != 0 || t.Len == 0 {
		return t.Len == 0 && t.Dist == 0
	}
	return 3 <= t.Len && t.Len <= 258 && 1 <= t.Dist && t.Dist <= 32768
}

// P6.1: Check tells which tokens may be.
func TestCheck(t *testing.T) {
	for x := range 256 {
		if err := Check(lit(byte(x))); err != api.OK {
			t.Errorf("Check(the byte %d): error %d", x, err)
		}
	}
	for length := 3; length <= 258; length++ {
		for _, dist := range []int{1, 2, 3, 257, 258, 259, 4096, 32767, 32768} {
			if err := Check(copied(length, dist)); err != api.OK {
				t.Errorf("Check(%d bytes from %d back): error %d", length, dist, err)
			}
		}
	}
	for dist := 1; dist <= 32768; dist++ {
		if Check(copied(3, dist)) != api.OK || Check(copied(258, dist)) != api.OK {
			t.Errorf("Check refuses copies from %d back", dist)
		}
	}
	for _, token := range noTokens() {
		if err := Check(token); err != api.ErrArg {
			t.Errorf("Check(%v): error %d, want error %d", token, err, api.ErrArg)
		}
	}
	for length := -2; length <= 262; length++ {
		for _, dist := range []int{-1, 0, 1, 2, 32767, 32768, 32769} {
			for _, x := range []byte{0, 1, 255} {
				token := api.Token{Len: length, Dist: dist, Lit: x}
				if (Check(token) == api.OK) != mayBe(token) {
					t.Errorf("Check(%v): error %d", token, Check(token))
				}
			}
		}
	}
}

// P6.1: Expand tells what tokens tell.
func TestExpand(t *testing.T) {
	for _, c := range []struct {
		l    []api.Token
		most int
		want string
	}{
		{[]api.Token{lit('a'), lit('b'), copied(3, 2), lit('c')}, 9, "ababac"}, {[]api.Token{lit('a'), lit('b'), copied(3, 2), lit('c')}, 6, "ababac"}, {nil, 0, ""}, {nil, 9, ""}, {[]api.Token{}, api.MaxFile, ""},
		{[]api.Token{lit(0)}, 1, "\x00"}, {[]api.Token{lit(255), lit(0), lit(255)}, 3, "\xff\x00\xff"}, {[]api.Token{lit('a'), copied(4, 1)}, 5, "aaaaa"}, {[]api.Token{lit(0), copied(3, 1)}, 4, "\x00\x00\x00\x00"},
		{[]api.Token{lit('a'), lit('b'), lit('c'), copied(3, 3)}, 6, "abcabc"}, {[]api.Token{lit('a'), lit('b'), lit('c'), copied(8, 3), copied(3, 4)}, 14, "abcabcabcabbca"},
		{[]api.Token{lit('a'), copied(3, 1), lit('b'), copied(5, 2), copied(3, 10)}, 13, "aaaabababaaaa"}, {[]api.Token{lit('x'), copied(258, 1)}, 259, strings.Repeat("x", 259)},
	} {
		if got := answered(t, c.l, c.most); string(got) != c.want {
			t.Errorf("Expand(%v, %d) = %q, want %q", c.l, c.most, got, c.want)
		}
	}
	for _, l := range tokens() {
		if got, want := answered(t, l, api.MaxFile), expanded(l); !bytes.Equal(got, want) {
			t.Errorf("Expand(%d tokens) = %s, want %s", len(l), short(got), short(want))
		}
	}
}

// P6.1: as many bytes as most are told, one more is too many.
func TestExpandMost(t *testing.T) {
	for _, l := range tokens() {
		want := expanded(l)
		for _, most := range []int{len(want), len(want) + 1, len(want) + 300, api.MaxFile} {
			if most <= api.MaxFile && !bytes.Equal(answered(t, l, most), want) {
				t.Errorf("Expand(%d tokens, %d) is not %s", len(l), most, short(want))
			}
		}
		for _, most := range []int{len(want) - 1, len(want) / 2, 1, 0} {
			if most >= 0 && most < len(want) {
				refused(t, l, most, api.ErrTooLarge)
			}
		}
	}
	refused(t, []api.Token{lit('a'), copied(4, 1)}, 4, api.ErrTooLarge)
	refused(t, lits(many(api.MaxFile+1, 1)), api.MaxFile, api.ErrTooLarge)
	full := append([]api.Token{lit(4)}, slices.Repeat([]api.Token{copied(257, 1)}, 255)...)
	refused(t, append(slices.Clone(full), lit(4)), api.MaxFile, api.ErrTooLarge)
	refused(t, append(slices.Clone(full), copied(3, 1)), api.MaxFile, api.ErrTooLarge)
	refused(t, append(slices.Clone(full[:255]), copied(258, 1)), api.MaxFile, api.ErrTooLarge)
}

// P6.1: a copy goes back as far as there are bytes, not farther.
func TestExpandDist(t *testing.T) {
	for _, n := range []int{0, 1, 2, 3, 100, 257, 258, 259, api.MaxWindow - 1, api.MaxWindow} {
		ahead := lits(mixed(n, 256, uint32(n)))
		for _, length := range []int{3, 4, 258} {
			if n < api.MaxWindow {
				refused(t, append(slices.Clone(ahead), copied(length, n+1)), api.MaxFile, api.ErrDist)
				refused(t, append(slices.Clone(ahead), copied(length, api.MaxWindow)), api.MaxFile, api.ErrDist)
			}
			if n > 0 {
				l := append(slices.Clone(ahead), copied(length, n))
				if got := answered(t, l, api.MaxFile); !bytes.Equal(got, expanded(l)) {
					t.Errorf("Expand of %d bytes and a copy from as far back = %s", n, short(got))
				}
			}
		}
	}
	// Bytes of copies count, too.
	answered(t, []api.Token{lit('a'), copied(3, 1), copied(3, 4)}, 9)
	refused(t, []api.Token{lit('a'), copied(3, 1), copied(3, 5)}, 9, api.ErrDist)
}

// P6.1: what Expand refuses, most ahead of all, then token by token, of one token ErrArg, ErrDist, ErrTooLarge.
func TestExpandRefused(t *testing.T) {
	far, wide, begin := copied(3, 2), copied(258, 1), []api.Token{lit('a')}
	with := func(l ...api.Token) []api.Token { return append(slices.Clone(begin), l...) }
	for _, most := range []int{-1, -2, api.MaxFile + 1, api.MaxFile + 2, 1 << 40, math.MaxInt, math.MinInt} {
		for _, l := range [][]api.Token{nil, begin, with(far), with(wide), with(noTokens()[0])} {
			refused(t, l, most, api.ErrArg)
		}
	}
	for _, bad := range noTokens() {
		for _, most := range []int{0, 1, 9, api.MaxFile} {
			refused(t, []api.Token{bad}, most, api.ErrArg)
			refused(t, []api.Token{bad, far, wide}, most, api.ErrArg)
		}
		refused(t, with(bad), 1, api.ErrArg)
		refused(t, with(lit('b'), copied(3, 2), bad), 5, api.ErrArg)
		refused(t, with(far, bad), 9, api.ErrDist)
		refused(t, with(wide, bad), 9, api.ErrTooLarge)
		refused(t, with(lit('b'), bad), 1, api.ErrTooLarge)
	}
	refused(t, []api.Token{copied(3, 1)}, 0, api.ErrDist)
	refused(t, []api.Token{copied(3, 1)}, 9, api.ErrDist)
	refused(t, with(far), 1, api.ErrDist)
	refused(t, with(far, wide), 9, api.ErrDist)
	refused(t, with(wide, far), 9, api.ErrTooLarge)
	refused(t, begin, 0, api.ErrTooLarge)
}

// P6.2: what Find tells are tokens that may be, that tell the bytes, at most one for each byte.
func TestFind(t *testing.T) {
	for _, b := range inputs() {
		for _, depth := range depths() {
			if l := found(t, b, depth); !bytes.Equal(answered(t, l, len(b)), b) {
				t.Errorf("Expand of Find(%s, %d) is not these bytes", short(b), depth)
			}
		}
	}
	for _, depth := range depths() {
		for _, b := range [][]byte{nil, {}} {
			if l := found(t, b, depth); len(l) != 0 {
				t.Errorf("Find of nothing = %v", l)
			}
		}
	}
}

// P6.2: all short rows of two and of three bytes are told.
func TestFindShort(t *testing.T) {
	for _, kinds := range []int{2, 3} {
		rows := [][]byte{nil}
		for range 18 / kinds {
			var longer [][]byte
			for _, row := range rows {
				for x := range kinds {
					longer = append(longer, append(slices.Clone(row), byte(x)))
				}
			}
			rows = longer
			for _, row := range rows {
				found(t, row, 1)
				found(t, row, 3)
			}
		}
	}
}

// P6.2: of n bytes all alike there are at most 4 and n / 258 tokens.
func TestFindAlike(t *testing.T) {
	check := func(n, depth int, x byte) {
		t.Helper()
		if l := found(t, many(n, x), depth); len(l) > 4+n/258 {
			t.Errorf("Find(%d times %d, %d): %d tokens", n, x, depth, len(l))
		}
	}
	for n := range 1100 {
		for _, depth := range []int{1, 2, api.MaxDeep} {
			check(n, depth, 'a')
		}
	}
	for _, n := range []int{258 * 100, 258*127 + 1, api.MaxWindow, api.MaxWindow + 1, api.MaxWindow + 258, api.MaxWindow + 259, 258 * 254, 65535, api.MaxFile} {
		for d := -4; d <= 4; d++ {
			for _, x := range []byte{0, 1, 255} {
				check(min(n+d, api.MaxFile), 1, x)
				check(min(n+d, api.MaxFile), api.MaxDeep, x)
			}
		}
	}
}

// P6.2: what Find refuses, of both errors ErrTooLarge.
func TestFindRefused(t *testing.T) {
	check := func(b []byte, depth int, want api.Errno) {
		t.Helper()
		if l, err := Find(b, depth); len(l) != 0 || err != want {
			t.Errorf("Find(%s, %d): %d tokens, error %d, want error %d", short(b), depth, len(l), err, want)
		}
	}
	for _, n := range []int{api.MaxFile + 1, api.MaxFile + 2, 2 * api.MaxFile, 1 << 20} {
		for _, depth := range []int{1, api.MaxDeep, 0, -1, api.MaxDeep + 1, math.MaxInt, math.MinInt} {
			check(many(n, 'a'), depth, api.ErrTooLarge)
		}
	}
	for _, depth := range []int{0, -1, -2, -api.MaxDeep, api.MaxDeep + 1, api.MaxDeep + 2, 1 << 40, math.MaxInt, math.MinInt} {
		for _, b := range [][]byte{nil, {}, []byte("a"), []byte("abcabc"), many(api.MaxFile, 0)} {
			check(b, depth, api.ErrArg)
		}
	}
	for _, depth := range []int{1, api.MaxDeep} {
		found(t, many(api.MaxFile, 'a'), depth)
		found(t, mixed(api.MaxFile, 256, 1), depth)
	}
}

// P6.2: copies go back as far as they may and not farther, are as long as they may be, and of those that are as long the nearest ones; they begin where the copy ahead of them ends, too.
func TestFindCopies(t *testing.T) {
	for _, dist := range []int{api.MaxWindow - 1, api.MaxWindow} {
		for _, depth := range depths() {
			if l := found(t, apart(dist), depth); l[len(l)-1] != copied(10, dist) {
				t.Errorf("Find of what stands twice, %d apart: %v at the end", dist, l[len(l)-1])
			}
		}
	}
	if l := found(t, apart(api.MaxWindow+1), api.MaxDeep); !slices.Equal(l[len(l)-10:], lits([]byte{1, 2, 3, 4, 5, 6, 7, 8, 9, 10})) {
		t.Errorf("Find of what stands twice, too far apart: %v at the end", l[len(l)-10:])
	}
	for _, c := range []struct {
		b    string
		want []api.Token
	}{
		{"abcabc", append(lits([]byte("abc")), copied(3, 3))}, {"abcab", lits([]byte("abcab"))}, {"ababab", append(lits([]byte("ab")), copied(4, 2))}, {"abcdxbcdy", append(lits([]byte("abcdx")), copied(3, 4), lit('y'))},
		{"abcxabcyabcz", append(lits([]byte("abcx")), copied(3, 4), lit('y'), copied(3, 4), lit('z'))}, {"abbqabbbbb", append(lits([]byte("abbq")), copied(3, 4), copied(3, 1))}, {strings.Repeat("a", 300), []api.Token{lit('a'), copied(258, 1), copied(41, 1)}},
	} {
		for _, depth := range depths() {
			if l := found(t, []byte(c.b), depth); !slices.Equal(l, c.want) {
				t.Errorf("Find(%s, %d) = %v, want %v", c.b, depth, l, c.want)
			}
		}
	}
	long := counted(400)
	if l := found(t, slices.Concat(long, long), 1); !slices.Equal(l[400:], []api.Token{copied(258, 400), copied(142, 400)}) {
		t.Errorf("Find of 400 bytes that come twice: %v behind them", l[400:])
	}
}

// P6.2: a greater depth looks at more places for a longer copy.
func TestFindDepth(t *testing.T) {
	b := []byte("abcde1abcd2abc3abcdef")
	for depth, want := range map[int]api.Token{1: copied(3, 4), 2: copied(4, 9), 3: copied(5, 15), 4: copied(5, 15), api.MaxDeep: copied(5, 15)} {
		l := found(t, b, depth)
		if !slices.Contains(l, want) {
			t.Errorf("Find(%s, %d) = %v has no %v", b, depth, l, want)
		}
	}
	// The place that is the last one to be looked at is the one with the longest copy.
	deep := append([]byte("abcdefgh"), bytes.Repeat([]byte("abcx"), api.MaxDeep-1)...)
	deep = append(deep, "yabcdefgh"...)
	want := copied(8, len(deep)-8)
	if l := found(t, deep, api.MaxDeep); l[len(l)-1] != want {
		t.Errorf("Find of the %d-th place: %v at the end", api.MaxDeep, l[len(l)-1])
	}
	if l := found(t, deep, api.MaxDeep-1); slices.Contains(l, want) {
		t.Errorf("Find with %d places looked at one more", api.MaxDeep-1)
	}
}

// P6.3: what a beginning of tokens tells is a beginning of what they tell.
func TestBeginnings(t *testing.T) {
	lists := append(tokens(), found(t, []byte(strings.Repeat("to be or not to be, ", 30)), 4), found(t, mixed(5000, 3, 8), 9))
	for _, l := range lists {
		all := answered(t, l, api.MaxFile)
		n := 0
		for k := 0; k <= len(l); k += 1 + k/100 {
			part := answered(t, l[:k], api.MaxFile)
			if len(part) < n || !bytes.HasPrefix(all, part) {
				t.Fatalf("Expand of %d of %d tokens = %s, which does not begin %s", k, len(l), short(part), short(all))
			}
			n = len(part)
		}
	}
}

// P6.4: a copy from Dist back repeats the last Dist bytes, over and over.
func TestAgain(t *testing.T) {
	ahead := mixed(300, 256, 7)
	for dist := 1; dist <= 300; dist += 1 + dist/20 {
		for length := 3; length <= 258; length++ {
			got := answered(t, append(lits(ahead), copied(length, dist)), api.MaxFile)
			want := bytes.Repeat(ahead[300-dist:], 258/dist+1)[:length]
			if !bytes.Equal(got[:300], ahead) || !bytes.Equal(got[300:], want) {
				t.Fatalf("a copy of %d bytes from %d back = %s, want %s", length, dist, short(got[300:]), short(want))
			}
		}
	}
	// Two copies from one distance go on as one does.
	one := answered(t, []api.Token{lit(1), lit(2), lit(3), lit(4), copied(258, 3)}, api.MaxFile)
	two := answered(t, []api.Token{lit(1), lit(2), lit(3), lit(4), copied(100, 3), copied(158, 3)}, api.MaxFile)
	if !bytes.Equal(one, two) {
		t.Errorf("a copy in two is %s, whole %s", short(two), short(one))
	}
}

// The rules that hold everywhere: what is handed in stays, behind its end, too, and is not kept; no two answers share memory; what is answered hangs on the arguments alone.
func TestShared(t *testing.T) {
	memory := []api.Token{lit('a'), lit('b'), copied(3, 2), lit('c'), lit('x'), copied(9, 9)}
	before := slices.Clone(memory)
	l := memory[:4]
	first, second := answered(t, l, 9), answered(t, l, 9)
	clear(first[:cap(first)])
	if string(second) != "ababac" || !slices.Equal(memory, before) {
		t.Errorf("behind Expand: %q, the tokens %v", second, memory)
	}
	clear(memory)
	if string(second) != "ababac" {
		t.Errorf("what Expand tells shares memory with its argument: %q", second)
	}

	text := []byte("abcabcabcabcd behind")
	same := slices.Clone(text)
	one, two := found(t, text[:13], 5), found(t, text[:13], 5)
	want := slices.Clone(two)
	clear(one[:cap(one)])
	if !slices.Equal(two, want) || !bytes.Equal(text, same) {
		t.Errorf("behind Find: %v, the bytes %q", two, text)
	}
	clear(text)
	if !slices.Equal(two, want) || string(expanded(two)) != "abcabcabcabcd" {
		t.Errorf("what Find tells shares memory with its argument: %v", two)
	}
	for _, b := range inputs() {
		roomy := slices.Concat(b, []byte("abcabcabc"))
		if !slices.Equal(found(t, b, 32), found(t, roomy[:len(b)], 32)) {
			t.Errorf("Find(%s, 32) hangs on more than the bytes", short(b))
		}
	}
}
