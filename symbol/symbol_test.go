package symbol

import (
	"math"
	"testing"

	"valise/api"
)

// side is one of both: the calls, and what they promise.
type side struct {
	name   string
	symbol func(n int) (int, int, api.Errno)
	number func(sym, v int) (int, api.Errno)
	bits   func(sym int) (int, api.Errno)
	// sym is the first symbol; bitsOf and first have of each symbol how many bits are beside it, and its first number; most is the greatest number.
	sym, most     int
	bitsOf, first []int
}

// sides are lengths and distances, as RFC 1951 has them (3.2.5).
func sides() []side {
	return []side{
		{
			"Len", Len, LenOf, LenBits, 257, 258,
			[]int{0, 0, 0, 0, 0, 0, 0, 0, 1, 1, 1, 1, 2, 2, 2, 2, 3, 3, 3, 3, 4, 4, 4, 4, 5, 5, 5, 5, 0},
			[]int{3, 4, 5, 6, 7, 8, 9, 10, 11, 13, 15, 17, 19, 23, 27, 31, 35, 43, 51, 59, 67, 83, 99, 115, 131, 163, 195, 227, 258},
		},
		{
			"Dist", Dist, DistOf, DistBits, 0, 32768,
			[]int{0, 0, 0, 0, 1, 1, 2, 2, 3, 3, 4, 4, 5, 5, 6, 6, 7, 7, 8, 8, 9, 9, 10, 10, 11, 11, 12, 12, 13, 13},
			[]int{1, 2, 3, 4, 5, 7, 9, 13, 17, 25, 33, 49, 65, 97, 129, 193, 257, 385, 513, 769, 1025, 1537, 2049, 3073, 4097, 6145, 8193, 12289, 16385, 24577},
		},
	}
}

// least is the lowest number.
func (s side) least() int { return s.first[0] }

// end is the symbol behind the last one.
func (s side) end() int { return s.sym + len(s.first) }

// noSymbols are numbers that are no symbols.
func (s side) noSymbols() []int {
	return []int{s.sym - 1, s.sym - 2, s.end(), s.end() + 1, s.end() + 2, s.end() + 256, -1, -2, -256, -257, 287, 288, 1 << 20, 1 << 32, 1<<32 + s.sym, math.MaxInt, math.MaxInt - 1, math.MinInt, math.MinInt + 1, math.MinInt + s.sym}
}

// told checks what a call told of a number.
func (s side) told(t *testing.T, n, sym, v int) {
	t.Helper()
	if gotSym, gotV, err := s.symbol(n); gotSym != sym || gotV != v || err != api.OK {
		t.Errorf("%s(%d) = %d, %d, error %d, want %d, %d", s.name, n, gotSym, gotV, err, sym, v)
	}
}

// of checks what a call told of a symbol and a number beside it.
func (s side) of(t *testing.T, sym, v, n int, want api.Errno) {
	t.Helper()
	if got, err := s.number(sym, v); got != n || err != want {
		t.Errorf("%sOf(%d, %d) = %d, error %d, want %d, error %d", s.name, sym, v, got, err, n, want)
	}
}

// wide checks how many bits a call told of a symbol.
func (s side) wide(t *testing.T, sym, bits int, want api.Errno) {
	t.Helper()
	if got, err := s.bits(sym); got != bits || err != want {
		t.Errorf("%sBits(%d) = %d, error %d, want %d, error %d", s.name, sym, got, err, bits, want)
	}
}

// The chapter's examples, and its words' ones.
func TestExamples(t *testing.T) {
	both := sides()
	length, dist := both[0], both[1]
	length.told(t, 3, 257, 0)
	length.told(t, 12, 265, 1)
	length.told(t, 257, 284, 30)
	length.told(t, 258, 285, 0)
	dist.told(t, 1, 0, 0)
	dist.told(t, 7, 5, 0)
	dist.told(t, 32768, 29, 8191)
	length.of(t, 286, 0, 0, api.ErrCode)
	dist.of(t, 4, 2, 0, api.ErrArg)
	length.told(t, 10, 264, 0)
	length.told(t, 11, 265, 0)
	length.told(t, 227, 284, 0)
	dist.told(t, 4, 3, 0)
	dist.told(t, 5, 4, 0)
	dist.told(t, 6, 4, 1)
	dist.told(t, 24577, 29, 0)
}

// P7.1: each length and each distance has its symbol, and the number beside it.
func TestSymbol(t *testing.T) {
	for _, s := range sides() {
		sym := s.sym
		for n := s.least(); n <= s.most; n++ {
			if k := sym + 1 - s.sym; k < len(s.first) && n == s.first[k] {
				sym++
			}
			s.told(t, n, sym, n-s.first[sym-s.sym])
		}
		if sym != s.end()-1 {
			t.Errorf("%s has %d as its last symbol, want %d", s.name, sym, s.end()-1)
		}
	}
}

// P7.1: no length is below 3 or above 258, no distance below 1 or above 32768.
func TestSymbolRefused(t *testing.T) {
	for _, s := range sides() {
		for _, n := range []int{s.least() - 1, s.least() - 2, 0, -1, -2, -3, -258, -32768, s.most + 1, s.most + 2, 2 * s.most, 32769, 65536, 1 << 20, 1 << 32, 1<<32 + 5, math.MaxInt, math.MaxInt - 1, math.MinInt, math.MinInt + 1, math.MinInt + 3, math.MinInt + 5} {
			if sym, v, err := s.symbol(n); sym != 0 || v != 0 || err != api.ErrArg {
				t.Errorf("%s(%d) = %d, %d, error %d, want error %d", s.name, n, sym, v, err, api.ErrArg)
			}
		}
	}
}

// P7.2: each symbol has so many bits beside it, and what is no symbol has none.
func TestBits(t *testing.T) {
	for _, s := range sides() {
		for k, bits := range s.bitsOf {
			s.wide(t, s.sym+k, bits, api.OK)
		}
		for sym := -300; sym < 700; sym++ {
			if sym < s.sym || sym >= s.end() {
				s.wide(t, sym, 0, api.ErrCode)
			}
		}
		for _, sym := range s.noSymbols() {
			s.wide(t, sym, 0, api.ErrCode)
		}
	}
}

// P7.3: a symbol's first number has 0 beside it, the next one 1, up to as many as its bits tell.
func TestNumber(t *testing.T) {
	for _, s := range sides() {
		for k, bits := range s.bitsOf {
			for v := range 1 << bits {
				s.of(t, s.sym+k, v, s.first[k]+v, api.OK)
			}
		}
	}
	sides()[0].of(t, 284, 31, 258, api.OK)
	sides()[0].of(t, 285, 0, 258, api.OK)
}

// P7.3: what is no symbol is refused whatever is beside it, a symbol if it has not enough bits for what is.
func TestNumberRefused(t *testing.T) {
	for _, s := range sides() {
		for k, bits := range s.bitsOf {
			for _, v := range []int{-1, -2, -1 << bits, 1 << bits, 1<<bits + 1, 2 << bits, 1 << 20, 1 << 32, 1 << 62, math.MaxInt, math.MinInt, math.MinInt + 1} {
				s.of(t, s.sym+k, v, 0, api.ErrArg)
			}
		}
		for _, sym := range s.noSymbols() {
			for _, v := range []int{0, 1, 31, 8191, -1, 8192, 1 << 20, math.MaxInt, math.MinInt} {
				s.of(t, sym, v, 0, api.ErrCode)
			}
		}
	}
}

// P7.4: the number of a number's symbol, and of what is beside it, is the number itself; and as many bits as the symbol has are enough.
func TestBack(t *testing.T) {
	for _, s := range sides() {
		for n := s.least(); n <= s.most; n++ {
			sym, v, err := s.symbol(n)
			if err != api.OK {
				t.Fatalf("%s(%d): error %d", s.name, n, err)
			}
			s.of(t, sym, v, n, api.OK)
			if bits, err := s.bits(sym); v < 0 || v >= 1<<bits || err != api.OK {
				t.Errorf("%s(%d) = %d, %d, which has %d bits, error %d", s.name, n, sym, v, bits, err)
			}
		}
	}
}

// P7.5: of two numbers the greater one has no lower symbol, and of one symbol the greater number beside it.
func TestRises(t *testing.T) {
	for _, s := range sides() {
		for n := s.least() + 1; n <= s.most; n++ {
			sym, v, _ := s.symbol(n - 1)
			above, greater, err := s.symbol(n)
			if above < sym || above == sym && greater <= v || err != api.OK {
				t.Errorf("%s(%d) = %d, %d, and %s(%d) = %d, %d, error %d", s.name, n-1, sym, v, s.name, n, above, greater, err)
			}
		}
	}
}

// The rules that hold everywhere: what is answered hangs on the arguments alone, not on what was asked ahead.
func TestAlone(t *testing.T) {
	both := sides()
	for range 3 {
		for n := 258; n >= 3; n-- {
			sym, v, _ := Len(n)
			Dist(n)
			Len(n - 300)
			DistOf(sym, v)
			both[0].told(t, n, sym, v)
			both[0].of(t, sym, v, n, api.OK)
		}
	}
}
