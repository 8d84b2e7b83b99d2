package limit

import (
	"container/heap"
	"math"
	"slices"
	"sort"
	"testing"

	"valise/api"
	"valise/huff"
)

// rising tells the next number that follows no simple pattern.
func rising(seed *uint32) int {
	*seed = *seed*1664525 + 1013904223
	return int(*seed >> 8)
}

// many tells n times the same number.
func many(n, often int) []int {
	return slices.Repeat([]int{often}, n)
}

// steep are n numbers of which each is what the two ahead are together: the best code is as long as it can be.
func steep(n int) []int {
	freq := []int{1, 1}
	for len(freq) < n {
		freq = append(freq, freq[len(freq)-1]+freq[len(freq)-2])
	}
	return freq[:n]
}

// doubled are n numbers from 1 on, each twice the one ahead.
func doubled(n int) []int {
	var freq []int
	for k := range n {
		freq = append(freq, 1<<k)
	}
	return freq
}

// mixed tells n numbers of all sizes, some 0, others for each seed.
func mixed(n int, seed uint32) []int {
	var freq []int
	for range n {
		often := rising(&seed) << 8 >> (rising(&seed) % 33)
		if rising(&seed)>>8%6 == 0 {
			often = 0
		}
		freq = append(freq, often)
	}
	return freq
}

// lists are lists of how often symbols come, up to as many and as often as may be.
func lists() [][]int {
	l := [][]int{
		{5}, {api.MaxNum}, {5, 0}, {0, 0, 1}, {0}, {0, 0}, {1, 1}, {0, 7, 0, 7, 0}, {1, api.MaxNum}, {api.MaxNum, api.MaxNum, 1}, {1, 1, 2, 4}, {4, 2, 1, 1}, {8, 1, 1, 1, 1, 1, 1, 1},
		steep(15), steep(16), steep(17), steep(30), steep(47), doubled(15), doubled(16), doubled(17), doubled(32), append(doubled(32), doubled(32)...),
		many(15, 3), many(16, 3), many(17, 3), many(255, 1), many(256, 1), many(257, 1), many(api.MaxSymbols, 0), many(api.MaxSymbols, 1), many(api.MaxSymbols, api.MaxNum),
		slices.Concat(steep(47), many(241, 1)), slices.Concat(many(241, 0), steep(47)), slices.Concat(many(128, 1), many(128, api.MaxNum)), append(many(287, 1), api.MaxNum), append(many(287, 0), 1),
	}
	for n := 2; n <= api.MaxSymbols; n += 1 + n/4 {
		for seed := range uint32(3) {
			l = append(l, mixed(n, seed))
		}
	}
	return append(l, mixed(api.MaxSymbols, 5), mixed(api.MaxSymbols, 6))
}

// small goes through all lists of n numbers from 0 to most.
func small(n, most int) [][]int {
	l := [][]int{nil}
	for range n {
		var longer [][]int
		for _, list := range l {
			for k := range most + 1 {
				longer = append(longer, append(slices.Clone(list), k))
			}
		}
		l = longer
	}
	return l
}

// noNumbers are lists that may not be how often symbols come.
func noNumbers() [][]int {
	l := [][]int{nil, {}, many(289, 0), many(289, 1), many(1000, 5), append(mixed(api.MaxSymbols, 1), 1)}
	for _, often := range []int{-1, -2, api.MaxNum + 1, api.MaxNum + 2, 1 << 40, math.MaxInt, math.MinInt} {
		l = append(l, []int{often}, []int{often, 1}, []int{1, often}, []int{0, often, 0}, []int{1, 1, 1, 1, often}, append(many(287, 1), often))
	}
	return l
}

// noMost are what may not be the most bits of a code.
func noMost() []int {
	return []int{0, -1, -2, -15, 16, 17, 31, 32, 63, 64, 65, math.MaxInt, math.MinInt}
}

// usedOf tells how often the used symbols come, those that come most first.
func usedOf(freq []int) []int {
	used := slices.DeleteFunc(slices.Clone(freq), func(often int) bool { return often == 0 })
	sort.Sort(sort.Reverse(sort.IntSlice(used)))
	return used
}

// summed tells what lengths cost as the document words it.
func summed(freq, lens []int) int {
	sum := 0
	for sym := range freq {
		sum += freq[sym] * lens[sym]
	}
	return sum
}

// bestOf tells the least that lengths cost, none above most, without help of the package. It goes on bit by bit, from each count of symbols that have their whole code (those that come most) and of codes that are begun; each bit costs what all others weigh. With fewer than two symbols it tells what one bit costs.
func bestOf(freq []int, most int) int {
	const never = math.MaxInt
	used := usedOf(freq)
	n := len(used)
	if n < 2 {
		return summed(used, many(n, 1))
	}
	left := make([]int, n+1)
	for j := n - 1; j >= 0; j-- {
		left[j] = left[j+1] + used[j]
	}
	table := func() [][]int {
		t := make([][]int, n+1)
		for j := range t {
			t[j] = many(n+1, never)
		}
		return t
	}
	best, now := never, table()
	now[0][1] = 0
	for range most {
		next := table()
		for j := range n {
			for k := 1; 2*k <= n-j; k++ {
				if now[j][k] != never {
					next[j][2*k] = now[j][k] + left[j]
				}
			}
		}
		for j := range n {
			for k := 1; k <= n-j; k++ {
				next[j+1][k-1] = min(next[j+1][k-1], next[j][k])
			}
		}
		best, now = min(best, next[n][0]), next
	}
	return best
}

// tried tells the least that lengths cost, by trying all of them; false, if none are lengths of a whole code.
func tried(freq []int, most int) (int, bool) {
	best, found := 0, false
	for _, lens := range small(len(freq), most) {
		if areOf(freq, lens) && taking(lens) == 1 && (!found || summed(freq, lens) < best) {
			best, found = summed(freq, lens), true
		}
	}
	return best, found
}

// areOf tells whether lengths are 0 just where a symbol is not used.
func areOf(freq, lens []int) bool {
	for sym := range freq {
		if (freq[sym] == 0) != (lens[sym] == 0) {
			return false
		}
	}
	return len(lens) == len(freq)
}

// taking tells what lengths take of all codes.
func taking(lens []int) float64 {
	sum := 0.0
	for _, length := range lens {
		if length != 0 {
			sum += math.Ldexp(1, -length)
		}
	}
	return sum
}

// sums is a heap of what trees weigh.
type sums []int

func (s sums) Len() int           { return len(s) }
func (s sums) Less(a, b int) bool { return s[a] < s[b] }
func (s sums) Swap(a, b int)      { s[a], s[b] = s[b], s[a] }
func (s *sums) Push(x any)        { *s = append(*s, x.(int)) }
func (s *sums) Pop() any {
	last := len(*s) - 1
	x := (*s)[last]
	*s = (*s)[:last]
	return x
}

// treeOf tells what the best tree costs, however deep it is: the two lightest ones are joined till one is left. Of a symbol alone it costs nothing.
func treeOf(freq []int) int {
	s := sums(usedOf(freq))
	heap.Init(&s)
	cost := 0
	for s.Len() > 1 {
		both := heap.Pop(&s).(int) + heap.Pop(&s).(int)
		cost += both
		heap.Push(&s, both)
	}
	return cost
}

// brokenOf tells what a code costs that has of each symbol just the length that suits it, broken as it is.
func brokenOf(freq []int) float64 {
	all, cost := 0.0, 0.0
	for _, often := range freq {
		all += float64(often)
	}
	for _, often := range freq {
		if often != 0 {
			cost += float64(often) * math.Log2(all/float64(often))
		}
	}
	return cost
}

// answered is Lengths of what has some; it fails if they are no such lengths at all.
func answered(t *testing.T, freq []int, most int) []int {
	t.Helper()
	lens, err := Lengths(freq, most)
	if err != api.OK || !areOf(freq, lens) || slices.Min(lens) < 0 || slices.Max(lens) > most {
		t.Fatalf("Lengths(%v, %d) = %v, error %d", freq, most, lens, err)
	}
	if n := len(usedOf(freq)); n > 1 && huff.Check(lens) != api.OK || n == 1 && slices.Max(lens) != 1 {
		t.Fatalf("Lengths(%v, %d) = %v, which is no whole code", freq, most, lens)
	}
	return lens
}

// each goes through all lists with each most at which they have lengths.
func each(l [][]int, do func(freq []int, most int)) {
	for _, freq := range l {
		for most := 1; most <= api.MaxCode; most++ {
			if len(usedOf(freq)) <= 1<<most {
				do(freq, most)
			}
		}
	}
}

// P5.1: lists of which no other lengths are as good.
func TestLengths(t *testing.T) {
	for _, c := range []struct {
		freq []int
		most int
		want []int
	}{
		{[]int{1, 1, 2, 4}, 15, []int{3, 3, 2, 1}}, {[]int{1, 1, 2, 4}, 3, []int{3, 3, 2, 1}}, {[]int{1, 1, 2, 4}, 2, []int{2, 2, 2, 2}}, {[]int{4, 0, 1, 2, 0, 1}, 3, []int{1, 0, 3, 2, 0, 3}},
		{[]int{5, 0}, 15, []int{1, 0}}, {[]int{5, 0}, 1, []int{1, 0}}, {[]int{1}, 1, []int{1}}, {[]int{0, 0, api.MaxNum}, 7, []int{0, 0, 1}}, {append(many(287, 0), 1), 15, append(many(287, 0), 1)},
		{[]int{0}, 1, []int{0}}, {[]int{0, 0, 0}, 15, []int{0, 0, 0}}, {many(api.MaxSymbols, 0), 1, many(api.MaxSymbols, 0)},
		{[]int{1, 1}, 1, []int{1, 1}}, {[]int{1, api.MaxNum}, 15, []int{1, 1}}, {[]int{9, 0, 1}, 15, []int{1, 0, 1}}, {[]int{1, 2, 1}, 2, []int{2, 1, 2}},
		{many(4, 7), 2, many(4, 2)}, {many(256, 3), 8, many(256, 8)}, {many(256, 3), 15, many(256, 8)},
		{doubled(16), 15, []int{15, 15, 14, 13, 12, 11, 10, 9, 8, 7, 6, 5, 4, 3, 2, 1}}, {append(many(32, 0), doubled(3)...), 2, append(many(32, 0), 2, 2, 1)}, {doubled(4), 2, many(4, 2)},
	} {
		if got, err := Lengths(c.freq, c.most); err != api.OK || !slices.Equal(got, c.want) {
			t.Errorf("Lengths(%v, %d) = %v, error %d, want %v", c.freq, c.most, got, err, c.want)
		}
	}
}

// P5.1: of short lists no lengths at all cost less.
func TestLengthsTried(t *testing.T) {
	for _, l := range [][][]int{small(2, 4), small(3, 4), small(4, 3), {{1, 1, 1, 1, 1}, {16, 8, 4, 2, 1}, {1, 2, 3, 5, 8}, {1, 0, 1, 1, 9}, {3, 3, 2, 2, 2}}} {
		for _, freq := range l {
			for most := 1; most <= 4; most++ {
				want, found := tried(freq, most)
				if n := len(usedOf(freq)); n < 2 || n > 1<<most {
					continue
				}
				if got := summed(freq, answered(t, freq, most)); !found || got != want {
					t.Errorf("Lengths(%v, %d) cost %d, want %d", freq, most, got, want)
				}
			}
		}
	}
}

// P5.1: of all lists with each most the lengths are those of a whole code, and cost the least.
func TestLengthsBest(t *testing.T) {
	each(append(lists(), small(5, 2)...), func(freq []int, most int) {
		if got, want := summed(freq, answered(t, freq, most)), bestOf(freq, most); got != want {
			t.Errorf("Lengths(%v, %d) cost %d, want %d", freq, most, got, want)
		}
	})
}

// P5.1: as many symbols as most has codes have just these; one more is too many.
func TestLengthsFull(t *testing.T) {
	for most := 1; most <= 8; most++ {
		full := many(1<<most, 0)
		for k := range full {
			full[k] = 1 + k*k*k
		}
		if got := answered(t, full, most); !slices.Equal(got, many(1<<most, most)) {
			t.Errorf("Lengths(%v, %d) = %v", full, most, got)
		}
		for _, freq := range [][]int{append([]int{1}, full...), append(full, 0, api.MaxNum), many(api.MaxSymbols, 1)} {
			if got, err := Lengths(freq, most); len(got) != 0 || err != api.ErrOver {
				t.Errorf("Lengths(%v, %d) = %v, error %d, want error %d", freq, most, got, err, api.ErrOver)
			}
		}
	}
	for _, most := range []int{9, 10, 15} {
		answered(t, many(api.MaxSymbols, api.MaxNum), most)
		answered(t, slices.Concat(steep(47), many(241, 1)), most)
	}
	if got, err := Lengths([]int{1, 1, 1}, 1); len(got) != 0 || err != api.ErrOver {
		t.Errorf("Lengths(1 1 1, 1) = %v, error %d", got, err)
	}
}

// P5.1: what Lengths refuses with ErrArg, ahead of ErrOver.
func TestLengthsRefused(t *testing.T) {
	refused := func(freq []int, most int) {
		t.Helper()
		if got, err := Lengths(freq, most); len(got) != 0 || err != api.ErrArg {
			t.Errorf("Lengths(%v, %d) = %v, error %d, want error %d", freq, most, got, err, api.ErrArg)
		}
	}
	for _, most := range noMost() {
		for _, freq := range append(noNumbers(), []int{1}, []int{0}, []int{1, 1}, many(api.MaxSymbols, 1)) {
			refused(freq, most)
		}
	}
	for _, freq := range noNumbers() {
		for most := 1; most <= api.MaxCode; most++ {
			refused(freq, most)
		}
	}
}

// P5.2: Cost tells the sum of how often times length, whatever code the lengths are of.
func TestCost(t *testing.T) {
	for _, c := range []struct {
		freq, lens []int
		want       int
	}{
		{[]int{1, 1, 2, 4}, []int{3, 3, 2, 1}, 14}, {[]int{1, 1, 2, 4}, []int{2, 2, 2, 2}, 16}, {[]int{1, 1, 2, 4}, []int{1, 2, 3, 4}, 25}, {[]int{0}, []int{0}, 0}, {[]int{0}, []int{15}, 0}, {[]int{9}, []int{0}, 0}, {[]int{9}, []int{15}, 135},
		{[]int{3, 5, 7}, []int{1, 1, 1}, 15}, {[]int{3, 5, 7}, []int{0, 0, 1}, 7}, {[]int{3, 5, 7}, []int{15, 15, 15}, 225}, {[]int{api.MaxNum}, []int{15}, 64424509425},
		{many(api.MaxSymbols, api.MaxNum), many(api.MaxSymbols, 15), 18554258714400}, {many(api.MaxSymbols, api.MaxNum), many(api.MaxSymbols, 0), 0}, {many(api.MaxSymbols, 1), many(api.MaxSymbols, 8), 2304},
	} {
		if got, err := Cost(c.freq, c.lens); got != c.want || err != api.OK {
			t.Errorf("Cost(%v, %v) = %d, error %d, want %d", c.freq, c.lens, got, err, c.want)
		}
	}
	seed := uint32(1)
	for _, freq := range lists() {
		lens := make([]int, len(freq))
		for sym := range lens {
			lens[sym] = rising(&seed) % 16
		}
		if got, err := Cost(freq, lens); got != summed(freq, lens) || err != api.OK {
			t.Errorf("Cost(%v, %v) = %d, error %d", freq, lens, got, err)
		}
	}
}

// P5.2: what Cost refuses.
func TestCostRefused(t *testing.T) {
	refused := func(freq, lens []int) {
		t.Helper()
		if got, err := Cost(freq, lens); got != 0 || err != api.ErrArg {
			t.Errorf("Cost(%v, %v) = %d, error %d, want error %d", freq, lens, got, err, api.ErrArg)
		}
	}
	for _, freq := range noNumbers() {
		refused(freq, many(len(freq), 1))
		refused(freq, many(len(freq), 0))
		refused(freq, []int{1, 1})
		refused(freq, nil)
	}
	for _, length := range []int{-1, -15, 16, 17, 100, math.MaxInt, math.MinInt} {
		refused([]int{1}, []int{length})
		refused([]int{0}, []int{length})
		refused([]int{1, 1, 0}, []int{1, 1, length})
		refused([]int{0, 1, 1}, []int{length, 1, 1})
		refused(many(4, 1), []int{1, 1, 1, length})
		refused(many(api.MaxSymbols, 1), append(many(287, 9), length))
	}
	for _, n := range []int{0, 1, 2, 4, 5, 287, 288, 289} {
		refused([]int{1, 2, 3}, many(n, 2))
		refused([]int{0, 0, 0}, many(n, 0))
	}
	refused(many(api.MaxSymbols, 1), many(287, 9))
	refused(many(287, 1), many(api.MaxSymbols, 9))
}

// P5.3: of two symbols that are used the one that comes more often has no longer code.
func TestOrder(t *testing.T) {
	each(append(lists(), small(4, 3)...), func(freq []int, most int) {
		lens := answered(t, freq, most)
		for a := range freq {
			for b := range freq {
				if freq[a] > freq[b] && freq[b] > 0 && lens[a] > lens[b] {
					t.Fatalf("Lengths(%v, %d) = %v: %d has more bits than %d", freq, most, lens, a, b)
				}
			}
		}
	})
}

// costs is what Cost tells of what Lengths tells.
func costs(t *testing.T, freq []int, most int) int {
	t.Helper()
	cost, err := Cost(freq, answered(t, freq, most))
	if err != api.OK {
		t.Fatalf("Cost of Lengths(%v, %d): error %d", freq, most, err)
	}
	return cost
}

// P5.4: with a greater most lengths cost no more; with twice as often everywhere twice as much.
func TestRoom(t *testing.T) {
	each(append(lists(), small(4, 3)...), func(freq []int, most int) {
		cost := costs(t, freq, most)
		if most < api.MaxCode && costs(t, freq, most+1) > cost {
			t.Errorf("Lengths(%v, %d) cost more than with %d", freq, most+1, most)
		}
		twice := slices.Clone(freq)
		for sym := range twice {
			twice[sym] *= 2
		}
		if slices.Max(twice) <= api.MaxNum && costs(t, twice, most) != 2*cost {
			t.Errorf("Lengths(%v, %d) cost not twice %d", twice, most, cost)
		}
	})
	if got := costs(t, []int{1, 1, 2, 4}, 3); got != 14 {
		t.Errorf("1 1 2 4 with 3 bits cost %d", got)
	}
	if got := costs(t, []int{1, 1, 2, 4}, 2); got != 16 {
		t.Errorf("1 1 2 4 with 2 bits cost %d", got)
	}
}

// P5.5: lengths cost at least what the best tree does, as much where it is no deeper than may be, and at least what broken lengths do.
func TestLeast(t *testing.T) {
	each(append(lists(), small(4, 3)...), func(freq []int, most int) {
		cost, tree, broken := costs(t, freq, most), treeOf(freq), brokenOf(freq)
		if cost < tree || float64(cost) < broken*(1-1e-9) {
			t.Errorf("Lengths(%v, %d) cost %d, the best tree %d, broken lengths %f", freq, most, cost, tree, broken)
		}
		// A tree of n symbols is no deeper than n - 1.
		if n := len(usedOf(freq)); n > 1 && n <= most+1 && cost != tree {
			t.Errorf("Lengths(%v, %d) cost %d, the best tree %d", freq, most, cost, tree)
		}
	})
	for most := 4; most <= api.MaxCode; most++ {
		if cost, tree := costs(t, steep(16), most), treeOf(steep(16)); (cost == tree) != (most == 15) {
			t.Errorf("Lengths(%v, %d) cost %d, the best tree %d", steep(16), most, cost, tree)
		}
	}
}

// The rules that hold everywhere: what is handed in stays, behind its end, too, and is not kept; no two answers share memory; what is answered hangs on the arguments alone.
func TestShared(t *testing.T) {
	memory := []int{4, 1, 0, 2, 1, 77, 78}
	before := slices.Clone(memory)
	freq := memory[:5]
	first, _ := Lengths(freq, 15)
	second, _ := Lengths(freq, 15)
	for k := range first[:cap(first)] {
		first[:cap(first)][k] = -1
	}
	want := []int{1, 3, 0, 2, 3}
	if !slices.Equal(second, want) {
		t.Errorf("two answers share memory: %v", second)
	}
	if cost, err := Cost(freq, second); cost != 14 || err != api.OK || !slices.Equal(second, want) {
		t.Errorf("Cost(%v, %v) = %d, error %d", freq, second, cost, err)
	}
	if !slices.Equal(memory, before) {
		t.Errorf("the numbers are %v, were %v", memory, before)
	}
	for k := range memory {
		memory[k] = 1
	}
	if !slices.Equal(second, want) {
		t.Errorf("an answer shares memory with its argument: %v", second)
	}
	for _, freq := range lists() {
		if one, two := answered(t, freq, 15), answered(t, freq, 15); !slices.Equal(one, two) {
			t.Errorf("Lengths(%v, 15) = %v, and then %v", freq, one, two)
		}
	}
}
