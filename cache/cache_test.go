package cache

import (
	"bytes"
	"math"
	"slices"
	"strconv"
	"strings"
	"testing"
	"unsafe"

	"valise/api"
)

// key tells a key by a short text: a 0 is the block 0 of the file a.
func key(text string) api.Key {
	file, number, _ := strings.Cut(text, " ")
	i, err := strconv.Atoi(number)
	if err != nil {
		panic(text)
	}
	return api.Key{File: file, I: i}
}

// told tells keys as such texts, with commas between.
func told(keys []api.Key) string {
	var texts []string
	for _, k := range keys {
		texts = append(texts, k.File+" "+strconv.Itoa(k.I))
	}
	return strings.Join(texts, ", ")
}

// filled tells n bytes that no other n have in common.
func filled(n int) []byte {
	return bytes.Repeat([]byte{byte(n + 1)}, n)
}

// made is New of what may be.
func made(t *testing.T, budget int) *Cache {
	t.Helper()
	c, err := New(budget)
	if err != api.OK || c == nil {
		t.Fatalf("New(%d) = %v, error %d", budget, c, err)
	}
	return c
}

// is fails if an error is another one.
func is(t *testing.T, err, want api.Errno) {
	t.Helper()
	if err != want {
		t.Fatalf("error %d, want error %d", err, want)
	}
}

// puts puts blocks: a 0=4 is the block a 0 of 4 bytes.
func puts(t *testing.T, c *Cache, texts ...string) {
	t.Helper()
	for _, text := range texts {
		name, number, _ := strings.Cut(text, "=")
		n, err := strconv.Atoi(number)
		if err != nil {
			t.Fatal(text)
		}
		is(t, c.Put(key(name), filled(n)), api.OK)
	}
}

// pins pins blocks.
func pins(t *testing.T, c *Cache, texts ...string) {
	t.Helper()
	for _, text := range texts {
		is(t, c.Pin(key(text)), api.OK)
	}
}

// has fails unless a cache has these keys, in this order, and so many bytes.
func has(t *testing.T, c *Cache, keys string, size int) {
	t.Helper()
	if got := told(c.Keys()); got != keys || c.Size() != size {
		t.Fatalf("Keys: %s, Size %d, want %s, %d", got, c.Size(), keys, size)
	}
}

// gets fails unless Get tells these bytes.
func gets(t *testing.T, c *Cache, name string, want []byte) {
	t.Helper()
	if b, ok := c.Get(key(name)); !ok || !bytes.Equal(b, want) {
		t.Fatalf("Get(%s) = % x, %v, want % x", name, b, ok, want)
	}
}

// lacks fails unless there is no such block.
func lacks(t *testing.T, c *Cache, names ...string) {
	t.Helper()
	for _, name := range names {
		if b, ok := c.Get(key(name)); ok || len(b) > 0 {
			t.Fatalf("Get(%s) = % x, %v, want none", name, b, ok)
		}
		if n := c.Pins(key(name)); n != 0 {
			t.Fatalf("Pins(%s) = %d, want 0", name, n)
		}
		is(t, c.Pin(key(name)), api.ErrNone)
		is(t, c.Unpin(key(name)), api.ErrNone)
	}
}

// pinned fails unless a block has so many pins.
func pinned(t *testing.T, c *Cache, name string, want int) {
	t.Helper()
	if n := c.Pins(key(name)); n != want {
		t.Fatalf("Pins(%s) = %d, want %d", name, n, want)
	}
}

// drops fails unless a file had so many blocks.
func drops(t *testing.T, c *Cache, file string, want int) {
	t.Helper()
	if n := c.Drop(file); n != want {
		t.Fatalf("Drop(%q) = %d, want %d", file, n, want)
	}
}

// The chapter's example.
func TestExample(t *testing.T) {
	c := made(t, 10)
	puts(t, c, "a 0=4", "a 1=4")
	gets(t, c, "a 0", filled(4))
	puts(t, c, "b 0=4")
	has(t, c, "b 0, a 0", 8)
	pins(t, c, "a 0")
	is(t, c.Put(key("c 0"), filled(7)), api.ErrNoSpace)
	is(t, c.Put(key("c 0"), filled(6)), api.OK)
	has(t, c, "c 0, a 0", 10)
}

// P17.1: budgets that may be, and such that may not.
func TestNew(t *testing.T) {
	for _, budget := range []int{0, 1, 2, 4096, 1<<20 - 1, 1 << 20} {
		c := made(t, budget)
		has(t, c, "", 0)
		lacks(t, c, "a 0", " 0")
		drops(t, c, "a", 0)
	}
	for _, budget := range []int{-1, -2, -4096, -1 << 32, math.MinInt, 1<<20 + 1, 1 << 21, 1 << 32, math.MaxInt} {
		if c, err := New(budget); c != nil || err != api.ErrArg {
			t.Errorf("New(%d) = %v, error %d, want error %d", budget, c, err, api.ErrArg)
		}
	}
	c := made(t, 5)
	puts(t, c, "a 0=5")
	has(t, made(t, 5), "", 0)
	has(t, c, "a 0", 5)
}

// P17.2: what was put is got, by its own key alone.
func TestGet(t *testing.T) {
	c := made(t, 1000)
	puts(t, c, "a 0=1", "a 1=2", "ab 0=3", " 0=4", "a -1=5", "A 0=6", "a/b 0=0", "a 9223372036854775807=7", "a -9223372036854775808=8")
	all := "a -9223372036854775808, a 9223372036854775807, a/b 0, A 0, a -1,  0, ab 0, a 1, a 0"
	has(t, c, all, 36)
	lacks(t, c, "b 0", "a 2", "ab 1", " 1", "a/b 1", "a/ 0", "aa 0")
	has(t, c, all, 36)
	for name, n := range map[string]int{"a 0": 1, "a 1": 2, "ab 0": 3, " 0": 4, "a -1": 5, "A 0": 6, "a/b 0": 0, "a 9223372036854775807": 7, "a -9223372036854775808": 8} {
		gets(t, c, name, filled(n))
	}
	whole := make([]byte, 4096)
	for k := range whole {
		whole[k] = byte(k * 7 >> 2)
	}
	c = made(t, 4096)
	is(t, c.Put(key("a 0"), whole), api.OK)
	gets(t, c, "a 0", whole)
}

// P17.2: Get of a block that is there uses it, Get of none changes nothing.
func TestGetUses(t *testing.T) {
	c := made(t, 9)
	puts(t, c, "a 0=3", "b 0=3", "c 0=3")
	for _, step := range []struct{ get, keys string }{{"a 0", "a 0, c 0, b 0"}, {"a 0", "a 0, c 0, b 0"}, {"c 0", "c 0, a 0, b 0"}, {"b 0", "b 0, c 0, a 0"}} {
		gets(t, c, step.get, filled(3))
		has(t, c, step.keys, 9)
	}
	lacks(t, c, "d 0", "a 1")
	has(t, c, "b 0, c 0, a 0", 9)
	puts(t, c, "d 0=3")
	has(t, c, "d 0, b 0, c 0", 9)
	lacks(t, c, "a 0")
}

// P17.2: Put of a key that is there changes its bytes, and uses it.
func TestPutAgain(t *testing.T) {
	c := made(t, 10)
	puts(t, c, "a 0=3", "b 0=3", "a 0=4")
	has(t, c, "a 0, b 0", 7)
	puts(t, c, "b 0=0")
	has(t, c, "b 0, a 0", 4)
	gets(t, c, "a 0", filled(4))
	gets(t, c, "b 0", nil)
	puts(t, c, "a 0=10")
	has(t, c, "a 0, b 0", 10)
	puts(t, c, "b 0=1")
	has(t, c, "b 0", 1)
	puts(t, c, "b 0=10", "b 0=0", "b 0=9")
	has(t, c, "b 0", 9)
	gets(t, c, "b 0", filled(9))
	is(t, c.Put(key("b 0"), []byte("123456789")), api.OK)
	gets(t, c, "b 0", []byte("123456789"))
}

// P17.2: a block has 4096 bytes at the most, whatever the budget.
func TestPutArg(t *testing.T) {
	for _, budget := range []int{0, 10, 4096, 4097, 8192, 1 << 20} {
		c := made(t, budget)
		puts(t, c, "a 0=0", "b 0=0")
		for _, n := range []int{4097, 4098, 8192, 1 << 16, 1 << 21} {
			is(t, c.Put(key("a 0"), make([]byte, n)), api.ErrArg)
			is(t, c.Put(key("c 0"), make([]byte, n)), api.ErrArg)
		}
		has(t, c, "b 0, a 0", 0)
		gets(t, c, "a 0", nil)
	}
	c := made(t, 4097)
	puts(t, c, "a 0=4096")
	pins(t, c, "a 0")
	is(t, c.Put(key("b 0"), make([]byte, 4097)), api.ErrArg)
	is(t, c.Put(key("b 0"), make([]byte, 4096)), api.ErrNoSpace)
	puts(t, c, "b 0=1")
	has(t, c, "b 0, a 0", 4097)
}

// P17.2: a block that is larger than the budget, or than what pins leave of it, has no room: nothing is changed, nothing is used.
func TestPutNoSpace(t *testing.T) {
	c := made(t, 0)
	puts(t, c, "a 0=0", "b 0=0", "a 1=0")
	is(t, c.Put(key("a 0"), filled(1)), api.ErrNoSpace)
	is(t, c.Put(key("c 0"), filled(1)), api.ErrNoSpace)
	has(t, c, "a 1, b 0, a 0", 0)
	c = made(t, 10)
	puts(t, c, "a 0=2", "b 0=3", "c 0=1", "d 0=2")
	pins(t, c, "a 0", "b 0")
	for _, n := range []int{6, 7, 10, 11, 4096} {
		is(t, c.Put(key("c 0"), filled(n)), api.ErrNoSpace)
		is(t, c.Put(key("e 0"), filled(n)), api.ErrNoSpace)
		has(t, c, "d 0, c 0, b 0, a 0", 8)
	}
	gets(t, c, "c 0", filled(1))
	lacks(t, c, "e 0")
	puts(t, c, "e 0=5")
	has(t, c, "e 0, b 0, a 0", 10)
}

// P17.2: a block's own pins leave it its own room, old bytes or new ones.
func TestPutPinned(t *testing.T) {
	c := made(t, 10)
	puts(t, c, "a 0=6", "b 0=2", "c 0=2")
	pins(t, c, "a 0", "a 0", "b 0")
	is(t, c.Put(key("a 0"), filled(9)), api.ErrNoSpace)
	has(t, c, "c 0, b 0, a 0", 10)
	gets(t, c, "a 0", filled(6))
	puts(t, c, "a 0=8")
	has(t, c, "a 0, b 0", 10)
	pinned(t, c, "a 0", 2)
	is(t, c.Put(key("c 0"), filled(1)), api.ErrNoSpace)
	puts(t, c, "a 0=3", "c 0=5")
	is(t, c.Put(key("c 0"), filled(6)), api.ErrNoSpace)
	has(t, c, "c 0, a 0, b 0", 10)
	puts(t, c, "b 0=0", "c 0=7")
	has(t, c, "c 0, b 0, a 0", 10)
	pinned(t, c, "a 0", 2)
	pinned(t, c, "b 0", 1)
	pinned(t, c, "c 0", 0)
}

// P17.2: the last ones of the order are let go, one by one, no more of them than have to be.
func TestPutLetsGo(t *testing.T) {
	for _, step := range []struct {
		n    int
		keys string
		size int
	}{
		{0, "e 0, d 0, c 0, b 0, a 0", 10}, {1, "e 0, d 0, c 0, b 0", 10}, {2, "e 0, d 0, c 0", 9}, {3, "e 0, d 0, c 0", 10},
		{4, "e 0, d 0", 8}, {6, "e 0, d 0", 10}, {7, "e 0", 7}, {10, "e 0", 10},
	} {
		c := made(t, 10)
		puts(t, c, "a 0=1", "b 0=2", "c 0=3", "d 0=4", "e 0="+strconv.Itoa(step.n))
		has(t, c, step.keys, step.size)
	}
}

// P17.2: empty blocks are let go as others are, in their turn, and only where there are too many bytes.
func TestPutLetsEmptyGo(t *testing.T) {
	c := made(t, 4)
	puts(t, c, "a 0=0", "b 0=2", "c 0=0", "d 0=2", "e 0=0")
	has(t, c, "e 0, d 0, c 0, b 0, a 0", 4)
	puts(t, c, "f 0=1")
	has(t, c, "f 0, e 0, d 0, c 0", 3)
	puts(t, c, "g 0=2")
	has(t, c, "g 0, f 0, e 0", 3)
	puts(t, c, "h 0=1")
	has(t, c, "h 0, g 0, f 0, e 0", 4)
	puts(t, c, "g 0=4")
	has(t, c, "g 0", 4)
	for k := range 300 {
		puts(t, c, "x "+strconv.Itoa(k)+"=0")
	}
	if keys := c.Keys(); len(keys) != 301 || keys[0] != key("x 299") || keys[300] != key("g 0") {
		t.Fatalf("Keys: %s", told(keys))
	}
	// A pin holds an empty block, too.
	pins(t, c, "x 0")
	puts(t, c, "h 0=1")
	if keys := c.Keys(); len(keys) != 301 || keys[300] != key("x 0") {
		t.Fatalf("Keys: %s", told(keys))
	}
	puts(t, c, "i 0=4")
	has(t, c, "i 0, x 0", 4)
}

// P17.2: blocks with pins are passed by, wherever they stand.
func TestPutPassesPins(t *testing.T) {
	for _, step := range []struct {
		pins []string
		keys string
	}{
		{nil, "e 0, d 0, c 0"}, {[]string{"a 0"}, "e 0, d 0, a 0"}, {[]string{"a 0", "c 0"}, "e 0, c 0, a 0"}, {[]string{"b 0", "d 0"}, "e 0, d 0, b 0"}, {[]string{"d 0"}, "e 0, d 0, c 0"}, {[]string{"c 0", "d 0"}, "e 0, d 0, c 0"},
	} {
		c := made(t, 8)
		puts(t, c, "a 0=2", "b 0=2", "c 0=2", "d 0=2")
		pins(t, c, step.pins...)
		puts(t, c, "e 0=4")
		has(t, c, step.keys, 4+2*strings.Count(step.keys, ","))
	}
}

// P17.3: pins are counted, of blocks that are there, and do not use them.
func TestPins(t *testing.T) {
	c := made(t, 10)
	for _, name := range []string{"a 0", " 0", "a -1"} {
		is(t, c.Pin(key(name)), api.ErrNone)
		is(t, c.Unpin(key(name)), api.ErrNone)
	}
	puts(t, c, "a 0=2", "b 0=3", "a 1=0")
	is(t, c.Unpin(key("a 0")), api.ErrArg)
	for n := range 300 {
		pinned(t, c, "a 0", n)
		pins(t, c, "a 0")
	}
	pins(t, c, "a 1")
	lacks(t, c, "a 2", "b 1", "c 0")
	for n := range 300 {
		pinned(t, c, "a 0", 300-n)
		is(t, c.Unpin(key("a 0")), api.OK)
	}
	pinned(t, c, "a 0", 0)
	pinned(t, c, "b 0", 0)
	pinned(t, c, "a 1", 1)
	is(t, c.Unpin(key("a 0")), api.ErrArg)
	is(t, c.Unpin(key("b 0")), api.ErrArg)
	has(t, c, "a 1, b 0, a 0", 5)
}

// P17.3: what is not pinned any more is let go in its turn, by the next Put, not at once; what is pinned anew is not.
func TestUnpin(t *testing.T) {
	c := made(t, 6)
	puts(t, c, "a 0=2", "b 0=2", "c 0=2")
	pins(t, c, "a 0", "a 0", "b 0")
	is(t, c.Put(key("d 0"), filled(3)), api.ErrNoSpace)
	is(t, c.Unpin(key("a 0")), api.OK)
	is(t, c.Put(key("d 0"), filled(3)), api.ErrNoSpace)
	is(t, c.Unpin(key("a 0")), api.OK)
	has(t, c, "c 0, b 0, a 0", 6)
	pins(t, c, "c 0")
	is(t, c.Put(key("d 0"), filled(3)), api.ErrNoSpace)
	puts(t, c, "d 0=2")
	has(t, c, "d 0, c 0, b 0", 6)
	is(t, c.Unpin(key("b 0")), api.OK)
	is(t, c.Unpin(key("c 0")), api.OK)
	has(t, c, "d 0, c 0, b 0", 6)
	puts(t, c, "d 0=6")
	has(t, c, "d 0", 6)
}

// P17.2, P17.3: pins stay with a Put, and end with the block.
func TestPinsStay(t *testing.T) {
	c := made(t, 6)
	puts(t, c, "a 0=2")
	pins(t, c, "a 0", "a 0", "a 0")
	puts(t, c, "a 0=5", "a 0=0", "a 0=2")
	pinned(t, c, "a 0", 3)
	drops(t, c, "a", 1)
	lacks(t, c, "a 0")
	puts(t, c, "a 0=2")
	pinned(t, c, "a 0", 0)
	is(t, c.Unpin(key("a 0")), api.ErrArg)
	pins(t, c, "a 0")
	is(t, c.Unpin(key("a 0")), api.OK)
	puts(t, c, "b 0=6")
	lacks(t, c, "a 0")
	puts(t, c, "a 0=1")
	pinned(t, c, "a 0", 0)
	has(t, c, "a 0", 1)
}

// P17.4: all blocks of just that file are let go.
func TestDrop(t *testing.T) {
	c := made(t, 100)
	puts(t, c, "a 0=1", "b 0=2", "a 1=3", "ab 0=4", " 5=5", "a -7=6", "a/b 0=7", "b 1=8", "a 2=0")
	drops(t, c, "c", 0)
	drops(t, c, "a/", 0)
	drops(t, c, "A", 0)
	drops(t, c, "a 0", 0)
	has(t, c, "a 2, b 1, a/b 0, a -7,  5, ab 0, a 1, b 0, a 0", 36)
	drops(t, c, "a", 4)
	has(t, c, "b 1, a/b 0,  5, ab 0, b 0", 26)
	lacks(t, c, "a 0", "a 1", "a 2", "a -7")
	drops(t, c, "a", 0)
	drops(t, c, "", 1)
	has(t, c, "b 1, a/b 0, ab 0, b 0", 21)
	gets(t, c, "ab 0", filled(4))
	drops(t, c, "b", 2)
	drops(t, c, "a/b", 1)
	has(t, c, "ab 0", 4)
	drops(t, c, "ab", 1)
	has(t, c, "", 0)
	puts(t, c, "a 0=100")
	has(t, c, "a 0", 100)
}

// P17.4: what is dropped gives its room back, with pins or without.
func TestDropRoom(t *testing.T) {
	c := made(t, 10)
	puts(t, c, "a 0=4", "b 0=3", "a 1=2")
	pins(t, c, "a 0", "a 0", "b 0", "a 1")
	is(t, c.Put(key("c 0"), filled(2)), api.ErrNoSpace)
	drops(t, c, "a", 2)
	has(t, c, "b 0", 3)
	is(t, c.Put(key("c 0"), filled(8)), api.ErrNoSpace)
	puts(t, c, "c 0=7")
	has(t, c, "c 0, b 0", 10)
	drops(t, c, "b", 1)
	puts(t, c, "d 0=10")
	has(t, c, "d 0", 10)
	lacks(t, c, "a 0", "a 1", "b 0", "c 0")
}

// P17.5: what only tells changes nothing, and uses nothing.
func TestTold(t *testing.T) {
	c := made(t, 6)
	puts(t, c, "a 0=2", "b 0=2", "c 0=2")
	pins(t, c, "b 0")
	for range 3 {
		has(t, c, "c 0, b 0, a 0", 6)
		pinned(t, c, "a 0", 0)
		pinned(t, c, "b 0", 1)
		pinned(t, c, "d 0", 0)
	}
	puts(t, c, "d 0=2")
	has(t, c, "d 0, c 0, b 0", 6)
}

// P17.6, P17.7: as many blocks as there may be, of as many bytes as there may be.
func TestMost(t *testing.T) {
	c := made(t, 1<<20)
	for k := range 300 {
		is(t, c.Put(api.Key{File: "f", I: k}, bytes.Repeat([]byte{byte(k)}, 4096)), api.OK)
		if n := min(k+1, 256); c.Size() != n*4096 || len(c.Keys()) != n {
			t.Fatalf("behind %d blocks: %d blocks, %d bytes", k+1, len(c.Keys()), c.Size())
		}
	}
	for k, kept := range slices.Backward(c.Keys()) {
		if kept.I != 299-k {
			t.Fatalf("Keys: %s", told(c.Keys()))
		}
		gets(t, c, told([]api.Key{kept}), bytes.Repeat([]byte{byte(kept.I)}, 4096))
	}
	drops(t, c, "f", 256)
	// Very many blocks do not take very long.
	for k := range 400000 {
		is(t, c.Put(api.Key{File: "g", I: k}, []byte{1, 2, 3}), api.OK)
		if n := min(k+1, 349525); c.Size() != 3*n {
			t.Fatalf("behind %d blocks: %d bytes", k+1, c.Size())
		}
	}
	drops(t, c, "g", 349525)
	has(t, c, "", 0)
}

// A cache that nothing made answers zero values, and does nothing.
func TestNone(t *testing.T) {
	for _, c := range []*Cache{nil, {}, new(Cache)} {
		for _, n := range []int{0, 1, 4096, 4097} {
			is(t, c.Put(key("a 0"), make([]byte, n)), api.ErrNil)
		}
		for range 2 {
			is(t, c.Pin(key("a 0")), api.ErrNil)
			is(t, c.Unpin(key("a 0")), api.ErrNil)
			if b, ok := c.Get(key("a 0")); len(b) > 0 || ok {
				t.Fatalf("Get: % x, %v", b, ok)
			}
			drops(t, c, "a", 0)
			pinned(t, c, "a 0", 0)
			has(t, c, "", 0)
		}
	}
}

// What is handed in is neither changed nor kept, and what is answered is nobody else's.
func TestMemory(t *testing.T) {
	c := made(t, 100)
	all := []byte("abcdefgh")
	is(t, c.Put(key("a 0"), all[:3]), api.OK)
	is(t, c.Put(key("b 0"), all[:3]), api.OK)
	if string(all) != "abcdefgh" {
		t.Fatalf("Put changed %q", all)
	}
	copy(all, "xxxxxxxx")
	for range 2 {
		gets(t, c, "a 0", []byte("abc"))
		b, _ := c.Get(key("a 0"))
		b = append(b, 'd')
		copy(b, "yyyy")
		gets(t, c, "b 0", []byte("abc"))
	}
	keys := c.Keys()
	keys[0], keys[1] = key("x 1"), key("y 1")
	has(t, c, "b 0, a 0", 6)
	puts(t, c, "c 0=1")
	if told(keys) != "x 1, y 1" {
		t.Fatalf("Put changed %s", told(keys))
	}
}

// No text that is answered stands where another one does, or where one was handed in.
func TestTexts(t *testing.T) {
	c := made(t, 100)
	name := strings.Clone("some file")
	for k := range 3 {
		is(t, c.Put(api.Key{File: name, I: k}, []byte{1}), api.OK)
	}
	seen := map[*byte]int{unsafe.StringData(name): 1}
	for i := range c.order.forward() {
		seen[unsafe.StringData(i.value.key.File)]++
	}
	for range 2 {
		for _, k := range c.Keys() {
			seen[unsafe.StringData(k.File)]++
		}
	}
	if len(seen) != 1+3+6 {
		t.Fatalf("%d texts stand in %d places", 1+3+6, len(seen))
	}
}
