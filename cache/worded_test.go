package cache

import (
	"bytes"
	"math"
	"slices"
	"strconv"
	"strings"
	"testing"

	"valise/api"
)

// held is a block as the chapter words it.
type held struct {
	key  api.Key
	data string
	pins int
}

// worded is a cache as the chapter words it, without help of the package: a budget, and the blocks in their order. What changes it tells another one.
type worded struct {
	budget int
	blocks []held
}

// bytesOf tells how many bytes some blocks have.
func bytesOf(blocks []held) int {
	n := 0
	for _, b := range blocks {
		n += len(b.data)
	}
	return n
}

// place tells where in the order a block stands; -1 if there is none.
func (w worded) place(k api.Key) int {
	return slices.IndexFunc(w.blocks, func(b held) bool { return b.key == k })
}

// without tells the blocks without one.
func (w worded) without(k api.Key) []held {
	return slices.DeleteFunc(slices.Clone(w.blocks), func(b held) bool { return b.key == k })
}

// get is Get.
func (w worded) get(k api.Key) (worded, string, bool) {
	n := w.place(k)
	if n < 0 {
		return w, "", false
	}
	used := w.blocks[n]
	w.blocks = append([]held{used}, w.without(k)...)
	return w, used.data, true
}

// put is Put.
func (w worded) put(k api.Key, data string) (worded, api.Errno) {
	if len(data) > 4096 {
		return w, api.ErrArg
	}
	others := w.without(k)
	fixed := slices.DeleteFunc(slices.Clone(others), func(b held) bool { return b.pins == 0 })
	if len(data)+bytesOf(fixed) > w.budget {
		return w, api.ErrNoSpace
	}
	is := held{key: k, data: data}
	if n := w.place(k); n >= 0 {
		is.pins = w.blocks[n].pins
	}
	for len(data)+bytesOf(others) > w.budget {
		last := len(others) - 1
		for others[last].pins > 0 {
			last--
		}
		others = slices.Delete(others, last, last+1)
	}
	w.blocks = append([]held{is}, others...)
	return w, api.OK
}

// pin is Pin, with 1, and Unpin, with -1.
func (w worded) pin(k api.Key, by int) (worded, api.Errno) {
	n := w.place(k)
	if n < 0 {
		return w, api.ErrNone
	}
	if w.blocks[n].pins+by < 0 {
		return w, api.ErrArg
	}
	w.blocks = slices.Clone(w.blocks)
	w.blocks[n].pins += by
	return w, api.OK
}

// drop is Drop.
func (w worded) drop(file string) (worded, int) {
	before := len(w.blocks)
	w.blocks = slices.DeleteFunc(slices.Clone(w.blocks), func(b held) bool { return b.key.File == file })
	return w, before - len(w.blocks)
}

// keys is Keys.
func (w worded) keys() []api.Key {
	var l []api.Key
	for _, b := range w.blocks {
		l = append(l, b.key)
	}
	return l
}

// alike fails if a cache does not tell what the worded one does, of all and of some keys; what uses blocks is not asked.
func alike(t *testing.T, c *Cache, w worded, keys []api.Key) {
	t.Helper()
	if got := c.Keys(); !slices.Equal(got, w.keys()) || c.Size() != bytesOf(w.blocks) {
		t.Fatalf("Keys: %.300s, Size %d, want %.300s, %d", told(got), c.Size(), told(w.keys()), bytesOf(w.blocks))
	}
	for _, k := range keys {
		want := 0
		if n := w.place(k); n >= 0 {
			want = w.blocks[n].pins
		}
		if n := c.Pins(k); n != want {
			t.Fatalf("Pins(%v) = %d, want %d", k, n, want)
		}
	}
}

// act is a call that may change a cache: data is what is put.
type act struct {
	kind string
	key  api.Key
	data string
}

// does does it with both caches, and fails if the answers are not one.
func (a act) does(t *testing.T, c *Cache, w worded) (worded, api.Errno) {
	t.Helper()
	var got, want api.Errno
	var data, wantData string
	ok, wantOk := false, false
	n, wantN := 0, 0
	switch a.kind {
	case "get":
		b, is := c.Get(a.key)
		data, ok = string(b), is
		w, wantData, wantOk = w.get(a.key)
	case "put":
		got = c.Put(a.key, []byte(a.data))
		w, want = w.put(a.key, a.data)
	case "pin":
		got = c.Pin(a.key)
		w, want = w.pin(a.key, 1)
	case "unpin":
		got = c.Unpin(a.key)
		w, want = w.pin(a.key, -1)
	case "drop":
		n = c.Drop(a.key.File)
		w, wantN = w.drop(a.key.File)
	}
	if got != want || data != wantData || ok != wantOk || n != wantN {
		t.Fatalf("%.100v: error %d, %.100q, %v, %d, want error %d, %.100q, %v, %d", a, got, data, ok, n, want, wantData, wantOk, wantN)
	}
	return w, got
}

// acts tells all that may be asked of some keys, with blocks of few bytes.
func acts(most int, keys ...api.Key) []act {
	var l []act
	for _, k := range keys {
		for _, kind := range []string{"get", "pin", "unpin", "drop"} {
			l = append(l, act{kind: kind, key: k})
		}
		for n := range most + 1 {
			l = append(l, act{"put", k, string(filled(n))})
		}
	}
	return l
}

// state tells all of a worded cache as a text.
func (w worded) state() string {
	var s strings.Builder
	for _, b := range w.blocks {
		s.WriteString(told([]api.Key{b.key}) + "=" + strconv.Itoa(len(b.data)) + "^" + strconv.Itoa(b.pins) + ",")
	}
	return s.String()
}

// mostPins tells how many pins that block has that has the most.
func (w worded) mostPins() int {
	n := 0
	for _, b := range w.blocks {
		n = max(n, b.pins)
	}
	return n
}

// way is how a worded cache was come to.
type way struct {
	w    worded
	last act
	from int
}

// come tells both caches behind a way: the other one made anew.
func come(t *testing.T, ways []way, k int) (*Cache, worded) {
	t.Helper()
	if k == 0 {
		return made(t, ways[0].w.budget), ways[0].w
	}
	c, w := come(t, ways, ways[k].from)
	w, _ = ways[k].last.does(t, c, w)
	return c, w
}

// P17.2 to P17.5: of three keys, with few bytes and few pins, each call in each cache that they make.
func TestAllCaches(t *testing.T) {
	keys := []api.Key{key("a 0"), key("a 1"), key("b 0")}
	all := append(acts(4, keys...), acts(0, key("c 0"))...)
	for budget := range 4 {
		ways := []way{{w: worded{budget: budget}}}
		seen := map[string]int{"": 0}
		for k := 0; k < len(ways); k++ {
			for _, a := range all {
				c, w := come(t, ways, k)
				w, _ = a.does(t, c, w)
				alike(t, c, w, keys)
				if _, known := seen[w.state()]; !known && w.mostPins() < 2 && w.place(key("c 0")) < 0 {
					seen[w.state()] = len(ways)
					ways = append(ways, way{w, a, k})
				}
			}
		}
		if want := allCaches(budget, 3); len(ways) != want {
			t.Fatalf("budget %d: %d caches, want %d", budget, len(ways), want)
		}
	}
}

// allCaches tells how many caches there are of n keys, with a pin or none each, and no more bytes than the budget.
func allCaches(budget, n int) int {
	all := 1
	if n > 0 {
		for size := range budget + 1 {
			// Any of the keys may stand first, pinned or not.
			all += n * 2 * allCaches(budget-size, n-1)
		}
	}
	return all
}

// next tells a number below n that hangs on the ones told ahead.
func next(seed *uint32, n int) int {
	*seed = *seed*1664525 + 1013904223
	return int(*seed>>8) % n
}

// anyOf tells one of some texts.
func anyOf(seed *uint32, texts ...string) string {
	return texts[next(seed, len(texts))]
}

// anyKeys tells keys of files whose names are nearly one, and of numbers as far from 0 as they go.
func anyKeys() []api.Key {
	var l []api.Key
	for _, file := range []string{"", "a", "ab", "a/b", "b", "a long path/of a file", "\xff\x00"} {
		for _, i := range []int{0, 1, 2, 3, -1, math.MaxInt, math.MinInt} {
			l = append(l, api.Key{File: file, I: i})
		}
	}
	return l
}

// anySize tells how many bytes are put: few of them, or many, or about as many as the budget, or as may be.
func anySize(seed *uint32, budget int) int {
	switch anyOf(seed, "none", "few", "few", "share", "share", "share", "budget", "most") {
	case "few":
		return next(seed, 5)
	case "share":
		return next(seed, min(budget, 4096)/4+2)
	case "budget":
		return min(max(budget+next(seed, 5)-2, 0), 5000)
	case "most":
		return 4094 + next(seed, 5)
	}
	return 0
}

// anyAct tells a call: more that put and use than that take away.
func anyAct(seed *uint32, budget int, keys []api.Key) act {
	k := keys[next(seed, len(keys))]
	kind := anyOf(seed, "put", "put", "put", "put", "put", "put", "get", "get", "get", "pin", "pin", "unpin", "unpin", "unpin", "drop")
	if kind == "drop" && next(seed, 4) > 0 {
		kind = "put"
	}
	if kind != "put" {
		return act{kind: kind, key: k}
	}
	return act{kind, k, strings.Repeat(anyOf(seed, "x", "y", "z"), anySize(seed, budget))}
}

// anyBudget tells a budget that may be.
func anyBudget(seed *uint32) int {
	return []int{0, 1, 3, 10, 100, 4095, 4096, 4097, 10000, 50000, 1 << 20}[next(seed, 11)]
}

// P17.2 to P17.5: whatever is done, a cache tells what the chapter says.
func TestWorded(t *testing.T) {
	came := map[api.Errno]int{}
	for run := range uint32(300) {
		seed := run * 7919
		budget := anyBudget(&seed)
		keys := anyKeys()[:1+next(&seed, 49)]
		c, w := made(t, budget), worded{budget: budget}
		for range 300 {
			var err api.Errno
			w, err = anyAct(&seed, budget, keys).does(t, c, w)
			came[err]++
			alike(t, c, w, keys)
		}
		for _, k := range keys {
			w, _ = act{kind: "get", key: k}.does(t, c, w)
			alike(t, c, w, keys)
		}
	}
	for _, err := range []api.Errno{api.OK, api.ErrArg, api.ErrNoSpace, api.ErrNone} {
		if came[err] < 1000 {
			t.Errorf("error %d came %d times", err, came[err])
		}
	}
}

// P17.6: there are never more bytes than the budget, and as many as Get tells.
func TestBudget(t *testing.T) {
	for run := range uint32(100) {
		seed := run*104729 + 17
		budget := anyBudget(&seed)
		c := made(t, budget)
		for step := range 400 {
			switch a := anyAct(&seed, budget, anyKeys()); a.kind {
			case "put":
				c.Put(a.key, []byte(a.data))
			case "pin":
				c.Pin(a.key)
			case "unpin":
				c.Unpin(a.key)
			case "drop":
				if step%5 == 0 {
					c.Drop(a.key.File)
				}
			}
			if c.Size() < 0 || c.Size() > budget {
				t.Fatalf("%d bytes, with a budget of %d", c.Size(), budget)
			}
			if step%20 == 0 && c.Size() != gotten(t, c) {
				t.Fatalf("Size %d, but %d bytes", c.Size(), gotten(t, c))
			}
		}
	}
}

// gotten tells how many bytes Get tells of all blocks, and leaves their order as it was.
func gotten(t *testing.T, c *Cache) int {
	t.Helper()
	n := 0
	keys := c.Keys()
	for _, k := range slices.Backward(keys) {
		b, ok := c.Get(k)
		if !ok {
			t.Fatalf("no block of %v", k)
		}
		n += len(b)
	}
	if !slices.Equal(keys, c.Keys()) {
		t.Fatalf("Keys: %s, were %s", told(c.Keys()), told(keys))
	}
	return n
}

// P17.7: of blocks that have all so many bytes those are there that were used last.
func TestLast(t *testing.T) {
	for run := range uint32(100) {
		seed := run*31 + 5
		fit, size := 1+next(&seed, 12), 1+next(&seed, 40)
		c := made(t, fit*size+next(&seed, size))
		// The keys of all that were used, each one once, the last one first.
		var used []api.Key
		for range 300 {
			k := api.Key{File: anyOf(&seed, "a", "b"), I: next(&seed, 10)}
			is := true
			if anyOf(&seed, "get", "put") == "put" {
				is = c.Put(k, filled(size)) == api.OK
			} else {
				_, is = c.Get(k)
			}
			if is {
				used = append([]api.Key{k}, slices.DeleteFunc(used, func(o api.Key) bool { return o == k })...)
			}
			if want := used[:min(fit, len(used))]; !slices.Equal(c.Keys(), want) {
				t.Fatalf("Keys: %s, want %s", told(c.Keys()), told(want))
			}
		}
	}
}

// P17.7: without pins, as many of those that were used last are there as fit.
func TestFit(t *testing.T) {
	for run := range uint32(200) {
		seed := run*37 + 3
		budget := 1 + next(&seed, 60)
		c := made(t, budget)
		size := map[api.Key]int{}
		for range 200 {
			k := api.Key{File: anyOf(&seed, "a", "b"), I: next(&seed, 8)}
			want := slices.DeleteFunc(c.Keys(), func(o api.Key) bool { return o == k })
			want = append([]api.Key{k}, want...)
			size[k] = next(&seed, budget+1)
			is(t, c.Put(k, filled(size[k])), api.OK)
			sum := 0
			for n, o := range want {
				if sum += size[o]; sum > budget {
					want = want[:n]
					break
				}
			}
			if !slices.Equal(c.Keys(), want) {
				t.Fatalf("Keys: %s, want %s", told(c.Keys()), told(want))
			}
		}
	}
}

// P17.7: what has a pin is there, with its bytes, till it is dropped.
func TestHeld(t *testing.T) {
	refused := 0
	for run := range uint32(100) {
		seed := run*41 + 11
		budget := 20 + next(&seed, 100)
		c := made(t, budget)
		data := map[api.Key][]byte{}
		for range 400 {
			k := api.Key{File: anyOf(&seed, "a", "b", "c"), I: next(&seed, 6)}
			switch anyOf(&seed, "put", "put", "put", "put", "pin", "drop") {
			case "put":
				b := filled(next(&seed, 30))
				if c.Put(k, b) != api.OK {
					refused++
				} else if data[k] != nil {
					data[k] = b
				}
			case "pin":
				if b, ok := c.Get(k); ok && len(data) < 5 && c.Pin(k) == api.OK {
					data[k] = append([]byte{}, b...)
				}
			case "drop":
				if next(&seed, 8) == 0 {
					c.Drop(k.File)
					for o := range data {
						if o.File == k.File {
							delete(data, o)
						}
					}
				}
			}
			for o, b := range data {
				if got, ok := c.Get(o); !ok || !bytes.Equal(got, b) {
					t.Fatalf("Get(%v) = % x, %v, want % x", o, got, ok, b)
				}
			}
		}
	}
	if refused < 100 {
		t.Fatalf("%d were refused", refused)
	}
}

// Who goes through a list, from either end, may leave off, and may cut out what is told.
func TestList(t *testing.T) {
	l := newList[int]()
	for i := range l.forward() {
		t.Fatalf("%d stands in a list of nothing", i.value)
	}
	for i := range l.backward() {
		t.Fatalf("%d stands in a list of nothing", i.value)
	}
	for n := range 6 {
		l.add(n)
	}
	listed(t, l, 5, 4, 3, 2, 1, 0)
	for most := range 7 {
		var ahead, back []int
		for i := range l.forward() {
			if ahead = append(ahead, i.value); len(ahead) >= most {
				break
			}
		}
		for i := range l.backward() {
			if back = append(back, i.value); len(back) >= most {
				break
			}
		}
		if n := max(most, 1); len(ahead) != min(n, 6) || !slices.Equal(ahead, []int{5, 4, 3, 2, 1, 0}[:len(ahead)]) || !slices.Equal(back, []int{0, 1, 2, 3, 4, 5}[:len(ahead)]) {
			t.Fatalf("the first %d: %v, %v", most, ahead, back)
		}
	}
	for i := range l.forward() {
		if i.value%2 > 0 {
			i.cut()
		}
	}
	listed(t, l, 4, 2, 0)
	for i := range l.backward() {
		i.cut()
		if i.value == 2 {
			l.lay(i)
			break
		}
	}
	listed(t, l, 2, 4)
}

// listed fails unless these values stand in a list, from either end.
func listed(t *testing.T, l list[int], want ...int) {
	t.Helper()
	var ahead, back []int
	for i := range l.forward() {
		ahead = append(ahead, i.value)
	}
	for i := range l.backward() {
		back = append(back, i.value)
	}
	slices.Reverse(back)
	if !slices.Equal(ahead, want) || !slices.Equal(back, want) {
		t.Fatalf("%v, from its end %v, want %v", ahead, back, want)
	}
}
