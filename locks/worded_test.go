package locks

import (
	"slices"
	"strconv"
	"strings"
	"testing"

	"valise/api"
)

// asked is one who asked for a key, and has not freed it.
type asked struct {
	who   int
	write bool
}

// worded are locks without help of the package: of each key all who asked and have not freed, in the order in which they asked. First come, first served: who holds the key is told by this order alone. What changes it tells another one.
type worded map[string][]asked

// holding tells how many hold a key: the first one, if it writes, else all who read, up to the first one who writes.
func (w worded) holding(key string) int {
	l := w[key]
	n := slices.IndexFunc(l, func(a asked) bool { return a.write })
	switch n {
	case -1:
		return len(l)
	case 0:
		return 1
	}
	return n
}

// with tells the locks with another list of a key.
func (w worded) with(key string, l []asked) worded {
	next := worded{key: l}
	for k, other := range w {
		if k != key {
			next[k] = other
		}
	}
	return next
}

// whos tells who some are.
func whos(l []asked) []int {
	var clients []int
	for _, a := range l {
		clients = append(clients, a.who)
	}
	return clients
}

// ask is Ask.
func (w worded) ask(who int, key string, write bool) (worded, bool, api.Errno) {
	if who < 0 || who > 7 {
		return w, false, api.ErrArg
	}
	if slices.Contains(whos(w[key]), who) {
		return w, false, api.ErrBusy
	}
	w = w.with(key, append(slices.Clone(w[key]), asked{who, write}))
	return w, w.holding(key) == len(w[key]), api.OK
}

// free is Free.
func (w worded) free(who int, key string) (worded, []int, api.Errno) {
	if who < 0 || who > 7 {
		return w, nil, api.ErrArg
	}
	before := w.holding(key)
	k := slices.Index(whos(w[key][:before]), who)
	if k < 0 {
		return w, nil, api.ErrNone
	}
	w = w.with(key, slices.Delete(slices.Clone(w[key]), k, k+1))
	return w, whos(w[key][before-1 : w.holding(key)]), api.OK
}

// alike fails if locks do not tell what the worded ones do, of some keys.
func alike(t *testing.T, l *Locks, w worded, keys []string) {
	t.Helper()
	for _, key := range keys {
		n := w.holding(key)
		wantHolders, wantRow, wantWrite := whos(w[key][:n]), whos(w[key][n:]), n > 0 && w[key][0].write
		holders, write := l.Holds(key)
		row := l.Waits(key)
		if !slices.Equal(holders, wantHolders) || write != wantWrite || !slices.Equal(row, wantRow) {
			t.Fatalf("Holds(%q) = %s, %v, Waits %s, want %s, %v, %s", key, told(holders), write, told(row), told(wantHolders), wantWrite, told(wantRow))
		}
	}
}

// act is a call that may change locks: to read, to write, or to free.
type act struct {
	kind string
	who  int
	key  string
}

// does does it with both locks, and fails if the answers are not one. It tells who asked, and did not wait, or who came to hold the key.
func (a act) does(t *testing.T, l *Locks, w worded) (worded, []int, api.Errno) {
	t.Helper()
	var got, want api.Errno
	var next, wantNext []int
	ok, wantOk := false, false
	if a.kind == "free" {
		next, got = l.Free(a.who, a.key)
		w, wantNext, want = w.free(a.who, a.key)
	} else {
		ok, got = l.Ask(a.who, a.key, a.kind == "write")
		w, wantOk, want = w.ask(a.who, a.key, a.kind == "write")
	}
	if got != want || ok != wantOk || !slices.Equal(next, wantNext) {
		t.Fatalf("%v: %v, %s, error %d, want %v, %s, error %d", a, ok, told(next), got, wantOk, told(wantNext), want)
	}
	if ok {
		next = []int{a.who}
	}
	return w, next, got
}

// acts tells all that may be asked of some keys by these clients.
func acts(keys []string, clients []int) []act {
	var l []act
	for _, key := range keys {
		for _, who := range clients {
			for _, kind := range []string{"read", "write", "free"} {
				l = append(l, act{kind, who, key})
			}
		}
	}
	return l
}

// state tells all of worded locks as a text.
func (w worded) state(keys []string) string {
	var s strings.Builder
	for _, key := range keys {
		for _, a := range w[key] {
			s.WriteString(strconv.Itoa(a.who) + map[bool]string{false: "r", true: "w"}[a.write] + " ")
		}
		s.WriteString(";")
	}
	return s.String()
}

// way is how worded locks were come to.
type way struct {
	w    worded
	last act
	from int
}

// come tells both locks behind a way: the other ones made anew.
func come(t *testing.T, ways []way, k int) (*Locks, worded) {
	t.Helper()
	if k == 0 {
		return New(), worded{}
	}
	l, w := come(t, ways, ways[k].from)
	w, _, _ = ways[k].last.does(t, l, w)
	return l, w
}

// everywhere does each call in all locks that some clients make of some keys, and tells how many these are.
func everywhere(t *testing.T, keys []string, clients, others []int) int {
	t.Helper()
	ways := []way{{w: worded{}}}
	seen := map[string]bool{worded{}.state(keys): true}
	for k := 0; k < len(ways); k++ {
		for _, a := range acts(keys, append(slices.Clone(clients), others...)) {
			l, w := come(t, ways, k)
			w, _, _ = a.does(t, l, w)
			alike(t, l, w, append([]string{"other"}, keys...))
			if slices.Contains(clients, a.who) && !seen[w.state(keys)] {
				seen[w.state(keys)] = true
				ways = append(ways, way{w, a, k})
			}
		}
	}
	return len(ways)
}

// lists tells how many lists there are of n clients at the most, each of which reads or writes.
func lists(n int) int {
	if n == 0 {
		return 1
	}
	return 1 + n*2*lists(n-1)
}

// P18.1 to P18.3: each call in all locks of one key that four clients make, of two keys that three make, of three that two make.
func TestAllLocks(t *testing.T) {
	for _, step := range []struct {
		keys            []string
		clients, others []int
	}{
		{[]string{"a"}, []int{0, 2, 5, 7}, []int{-1, 1, 8}},
		{[]string{"", "a"}, []int{0, 3, 7}, []int{5, 9}},
		{[]string{"a", "b", "ab"}, []int{6, 1}, []int{-7}},
	} {
		want := 1
		for range step.keys {
			want *= lists(len(step.clients))
		}
		if n := everywhere(t, step.keys, step.clients, step.others); n != want {
			t.Fatalf("%d locks of %v, want %d", n, step.keys, want)
		}
	}
}

// next tells a number below n that hangs on the ones told ahead.
func next(seed *uint32, n int) int {
	*seed = *seed*1664525 + 1013904223
	return int(*seed>>8) % n
}

// anyKeys are keys that are nearly one.
func anyKeys() []string {
	return []string{"", "a", "/", "/a", "/a/b", "ab", "\xff\x00"}
}

// anyAct tells a call: about as many that ask as free, more that read or more that write, and some of nobody.
func anyAct(seed *uint32, keys []string, writes int) act {
	a := act{kind: "read", who: next(seed, 8), key: keys[next(seed, len(keys))]}
	if next(seed, 2) == 0 {
		a.kind = "free"
	} else if next(seed, 10) < writes {
		a.kind = "write"
	}
	if next(seed, 50) == 0 {
		a.who = nobody()[next(seed, len(nobody()))]
	}
	return a
}

// P18.1 to P18.3: whatever is asked, locks tell what the chapter says.
func TestWorded(t *testing.T) {
	came := map[api.Errno]int{}
	for run := range uint32(400) {
		seed := run * 7919
		keys, writes := anyKeys()[:1+next(&seed, 7)], next(&seed, 11)
		l, w := New(), worded{}
		for range 300 {
			var err api.Errno
			w, _, err = anyAct(&seed, keys, writes).does(t, l, w)
			came[err]++
			alike(t, l, w, anyKeys())
		}
	}
	for _, err := range []api.Errno{api.OK, api.ErrArg, api.ErrBusy, api.ErrNone} {
		if came[err] < 1000 {
			t.Errorf("error %d came %d times", err, came[err])
		}
	}
}

// P18.4: who writes is alone: of what Ask and Free answered, not of what the locks tell.
func TestApart(t *testing.T) {
	for run := range uint32(200) {
		seed := run*104729 + 17
		l := New()
		writes := map[int]bool{} // who asked: is it to write?
		holds := map[int]bool{}
		for range 300 {
			a := anyAct(&seed, []string{"a"}, 4)
			if a.kind != "free" {
				ok, err := l.Ask(a.who, a.key, a.kind == "write")
				if err == api.OK {
					writes[a.who] = a.kind == "write"
					holds[a.who] = ok
				}
			} else if now, err := l.Free(a.who, a.key); err == api.OK {
				holds[a.who] = false
				for _, who := range now {
					holds[who] = true
				}
			}
			all, writers := 0, 0
			for who, held := range holds {
				if held {
					all++
				}
				if held && writes[who] {
					writers++
				}
			}
			if writers > 1 || writers == 1 && all > 1 {
				t.Fatalf("behind %v %d hold the key, %d of them to write", a, all, writers)
			}
		}
	}
}

// P18.5: who asked ahead holds ahead: all come to hold a key in the order in which they asked.
func TestTurns(t *testing.T) {
	for run := range uint32(200) {
		seed := run*31 + 5
		l, w := New(), worded{}
		var order, came []int
		for range 300 {
			a := anyAct(&seed, []string{"a"}, 5)
			var held []int
			var err api.Errno
			w, held, err = a.does(t, l, w)
			if err == api.OK && a.kind != "free" {
				order = append(order, a.who)
			}
			came = append(came, held...)
			if !slices.Equal(came, order[:len(came)]) {
				t.Fatalf("asked: %s, came to hold: %s", told(order), told(came))
			}
		}
	}
}

// P18.6: when all who hold a key free it, and those who come to hold it then, all who waited have held it, and nobody does.
func TestAll(t *testing.T) {
	for run := range uint32(500) {
		seed := run*37 + 3
		l, w := New(), worded{}
		for range 60 {
			a := anyAct(&seed, []string{"a"}, 1+next(&seed, 9))
			if a.kind == "free" && next(&seed, 2) == 0 {
				continue
			}
			w, _, _ = a.does(t, l, w)
		}
		waited := l.Waits("a")
		var came []int
		for holders, _ := l.Holds("a"); len(holders) > 0; holders, _ = l.Holds("a") {
			next, err := l.Free(holders[next(&seed, len(holders))], "a")
			is(t, err, api.OK)
			came = append(came, next...)
		}
		if !slices.Equal(came, waited) {
			t.Fatalf("%s waited, %s came to hold", told(waited), told(came))
		}
		has(t, l, "a", "", "")
	}
}
