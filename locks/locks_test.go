package locks

import (
	"math"
	"slices"
	"strconv"
	"strings"
	"testing"
	"unsafe"

	"valise/api"
)

// told tells clients as a text: 0 1 5.
func told(clients []int) string {
	var texts []string
	for _, who := range clients {
		texts = append(texts, strconv.Itoa(who))
	}
	return strings.Join(texts, " ")
}

// cut cuts a client's text in two: 2w is the client 2, who writes, 2 one who frees.
func cut(t *testing.T, text string) (int, bool) {
	t.Helper()
	who, err := strconv.Atoi(strings.TrimRight(text, "rw"))
	if err != nil {
		t.Fatal(text)
	}
	return who, strings.HasSuffix(text, "w")
}

// is fails if an error is another one.
func is(t *testing.T, err, want api.Errno) {
	t.Helper()
	if err != want {
		t.Fatalf("error %d, want error %d", err, want)
	}
}

// asks asks for a key, for each client in its turn, all of whom are answered alike.
func asks(t *testing.T, l *Locks, key string, clients string, want bool) {
	t.Helper()
	for text := range strings.FieldsSeq(clients) {
		who, write := cut(t, text)
		if ok, err := l.Ask(who, key, write); ok != want || err != api.OK {
			t.Fatalf("Ask(%s, %q) = %v, error %d, want %v", text, key, ok, err, want)
		}
	}
}

// refuses fails unless all these clients are answered an error, whatever they ask for.
func refuses(t *testing.T, l *Locks, key string, want api.Errno, clients ...int) {
	t.Helper()
	for _, who := range clients {
		for _, write := range []bool{false, true} {
			if ok, err := l.Ask(who, key, write); ok || err != want {
				t.Fatalf("Ask(%d, %q, %v) = %v, error %d, want error %d", who, key, write, ok, err, want)
			}
		}
	}
}

// frees fails unless one client's Free of a key has others hold it.
func frees(t *testing.T, l *Locks, key string, who int, want string) {
	t.Helper()
	if next, err := l.Free(who, key); told(next) != want || err != api.OK {
		t.Fatalf("Free(%d, %q) = %s, error %d, want %s", who, key, told(next), err, want)
	}
}

// keeps fails unless all these clients are answered an error when they free a key.
func keeps(t *testing.T, l *Locks, key string, want api.Errno, clients ...int) {
	t.Helper()
	for _, who := range clients {
		if next, err := l.Free(who, key); len(next) > 0 || err != want {
			t.Fatalf("Free(%d, %q) = %s, error %d, want error %d", who, key, told(next), err, want)
		}
	}
}

// has fails unless a key has these holders, who all read, or one of whom writes (0w), and this row.
func has(t *testing.T, l *Locks, key, holders, row string) {
	t.Helper()
	clients, write := l.Holds(key)
	waits := l.Waits(key)
	if write != strings.HasSuffix(holders, "w") || told(clients) != strings.TrimRight(holders, "w") || told(waits) != row {
		t.Fatalf("Holds(%q) = %s, %v, Waits %s, want %s, %s", key, told(clients), write, told(waits), holders, row)
	}
}

// nobody are no clients.
func nobody() []int {
	return []int{-1, 8, -2, 9, 256, -256, 1 << 32, math.MaxInt, math.MinInt}
}

// The chapter's example.
func TestExample(t *testing.T) {
	l := New()
	asks(t, l, "a", "0r 1r", true)
	asks(t, l, "a", "2w 3r", false)
	has(t, l, "a", "0 1", "2 3")
	frees(t, l, "a", 0, "")
	frees(t, l, "a", 1, "2")
	frees(t, l, "a", 2, "3")
	has(t, l, "a", "3", "")
}

// P18.1: who is no client asks for nothing, whoever holds the key.
func TestAskArg(t *testing.T) {
	l := New()
	refuses(t, l, "a", api.ErrArg, nobody()...)
	has(t, l, "a", "", "")
	asks(t, l, "a", "0r 7r", true)
	refuses(t, l, "a", api.ErrArg, nobody()...)
	asks(t, l, "a", "1w", false)
	refuses(t, l, "a", api.ErrArg, nobody()...)
	has(t, l, "a", "0 7", "1")
}

// P18.1: who holds a key, or waits for it, does not ask for it again, to read or to write; for others it may.
func TestAskBusy(t *testing.T) {
	l := New()
	asks(t, l, "a", "0r 1r", true)
	refuses(t, l, "a", api.ErrBusy, 0, 1)
	asks(t, l, "a", "2w 3r", false)
	refuses(t, l, "a", api.ErrBusy, 0, 1, 2, 3, 3, 2)
	has(t, l, "a", "0 1", "2 3")
	asks(t, l, "b", "3w", true)
	refuses(t, l, "b", api.ErrBusy, 3)
	asks(t, l, "b", "2r 0w", false)
	refuses(t, l, "b", api.ErrBusy, 0, 2, 3)
	frees(t, l, "a", 0, "")
	asks(t, l, "a", "0r", false)
	refuses(t, l, "a", api.ErrBusy, 0, 1, 2, 3)
	has(t, l, "a", "1", "2 3 0")
	has(t, l, "b", "3w", "2 0")
}

// P18.1: a key that nobody holds is whoever's asks for it first.
func TestAskFree(t *testing.T) {
	for who := range 8 {
		for _, how := range []string{"r", "w"} {
			l := New()
			asks(t, l, "a", strconv.Itoa(who)+how, true)
			has(t, l, "a", strings.TrimRight(strconv.Itoa(who)+how, "r"), "")
			frees(t, l, "a", who, "")
			has(t, l, "a", "", "")
			asks(t, l, "a", strconv.Itoa(7-who)+"w", true)
			has(t, l, "a", strconv.Itoa(7-who)+"w", "")
		}
	}
}

// P18.1: all may read at one time.
func TestAskRead(t *testing.T) {
	l := New()
	asks(t, l, "a", "3r 0r 7r 1r 6r 2r 5r 4r", true)
	has(t, l, "a", "3 0 7 1 6 2 5 4", "")
	refuses(t, l, "a", api.ErrBusy, 0, 1, 2, 3, 4, 5, 6, 7)
}

// P18.1: who would write waits for all who hold, and who would read for one who writes.
func TestAskWaits(t *testing.T) {
	for _, step := range []struct{ first, next string }{{"0r", "1w"}, {"0w", "1w"}, {"0w", "1r"}} {
		l := New()
		asks(t, l, "a", step.first, true)
		asks(t, l, "a", step.next, false)
		has(t, l, "a", strings.TrimRight(step.first, "r"), "1")
	}
	l := New()
	asks(t, l, "a", "7w", true)
	asks(t, l, "a", "3r 0w 6w 1r 2r 5w 4r", false)
	has(t, l, "a", "7w", "3 0 6 1 2 5 4")
}

// P18.1: while somebody waits, who asks stands behind, even where it could read beside those who hold.
func TestAskBehind(t *testing.T) {
	l := New()
	asks(t, l, "a", "0r", true)
	asks(t, l, "a", "1w 2r 3r", false)
	has(t, l, "a", "0", "1 2 3")
	frees(t, l, "a", 0, "1")
	asks(t, l, "a", "0r", false)
	has(t, l, "a", "1w", "2 3 0")
	frees(t, l, "a", 1, "2 3 0")
	asks(t, l, "a", "1r", true)
	has(t, l, "a", "2 3 0 1", "")
}

// P18.2: who is no client frees nothing.
func TestFreeArg(t *testing.T) {
	l := New()
	keeps(t, l, "a", api.ErrArg, nobody()...)
	asks(t, l, "a", "0r 7r", true)
	asks(t, l, "a", "1w", false)
	keeps(t, l, "a", api.ErrArg, nobody()...)
	has(t, l, "a", "0 7", "1")
}

// P18.2: who does not hold a key does not free it; who waits does not hold, and goes on waiting.
func TestFreeNone(t *testing.T) {
	l := New()
	keeps(t, l, "a", api.ErrNone, 0, 1, 2, 3, 4, 5, 6, 7)
	asks(t, l, "a", "1r", true)
	asks(t, l, "a", "2w 3r", false)
	keeps(t, l, "a", api.ErrNone, 0, 2, 3, 4, 5, 6, 7)
	keeps(t, l, "b", api.ErrNone, 0, 1, 2, 3)
	has(t, l, "a", "1", "2 3")
	frees(t, l, "a", 1, "2")
	keeps(t, l, "a", api.ErrNone, 0, 1, 3, 4, 5, 6, 7)
	frees(t, l, "a", 2, "3")
	frees(t, l, "a", 3, "")
	keeps(t, l, "a", api.ErrNone, 0, 1, 2, 3, 4, 5, 6, 7)
}

// P18.2: those of the row who may hold a key together do, up to the first one who may not.
func TestFreeNext(t *testing.T) {
	for _, step := range []struct{ row, next, holders, waits string }{
		{"", "", "", ""},
		{"1r", "1", "1", ""},
		{"1w", "1", "1w", ""},
		{"3r 2r 7r", "3 2 7", "3 2 7", ""},
		{"3r 2r 7w 1r", "3 2", "3 2", "7 1"},
		{"3r 2w 7r 1r", "3", "3", "2 7 1"},
		{"3w 2r 7r 1w", "3", "3w", "2 7 1"},
		{"3w 2w", "3", "3w", "2"},
		{"1r 2r 3r 4r 5r 6r 7r", "1 2 3 4 5 6 7", "1 2 3 4 5 6 7", ""},
		{"7w 6w 5w 4w 3w 2w 1w", "7", "7w", "6 5 4 3 2 1"},
	} {
		l := New()
		asks(t, l, "a", "0w", true)
		asks(t, l, "a", step.row, false)
		frees(t, l, "a", 0, step.next)
		has(t, l, "a", step.holders, step.waits)
	}
}

// P18.2: as long as one reads, nobody comes to write; the last one to free has others hold, in whatever order they free.
func TestFreeReaders(t *testing.T) {
	for _, order := range [][]int{{0, 1, 2}, {2, 1, 0}, {1, 0, 2}, {1, 2, 0}} {
		l := New()
		asks(t, l, "a", "0r 1r 2r", true)
		asks(t, l, "a", "3w 4r 5r 6w", false)
		frees(t, l, "a", order[0], "")
		frees(t, l, "a", order[1], "")
		has(t, l, "a", strconv.Itoa(order[2]), "3 4 5 6")
		frees(t, l, "a", order[2], "3")
		frees(t, l, "a", 3, "4 5")
		frees(t, l, "a", 5, "")
		has(t, l, "a", "4", "6")
		frees(t, l, "a", 4, "6")
		has(t, l, "a", "6w", "")
		frees(t, l, "a", 6, "")
		has(t, l, "a", "", "")
	}
}

// P18.3: holders stand in the order in which they came to hold; one who frees leaves the others in theirs.
func TestHolds(t *testing.T) {
	l := New()
	asks(t, l, "a", "5r 2r 7r 0r", true)
	has(t, l, "a", "5 2 7 0", "")
	frees(t, l, "a", 2, "")
	has(t, l, "a", "5 7 0", "")
	asks(t, l, "a", "2r", true)
	has(t, l, "a", "5 7 0 2", "")
	frees(t, l, "a", 5, "")
	frees(t, l, "a", 2, "")
	has(t, l, "a", "7 0", "")
	frees(t, l, "a", 0, "")
	frees(t, l, "a", 7, "")
	asks(t, l, "a", "7w", true)
	has(t, l, "a", "7w", "")
	asks(t, l, "a", "3r 1r", false)
	frees(t, l, "a", 7, "3 1")
	asks(t, l, "a", "0r", true)
	has(t, l, "a", "3 1 0", "")
}

// P18.3: keys have nothing to do with each other, however alike they are.
func TestKeys(t *testing.T) {
	keys := []string{"", "a", "A", "ab", "/", "/a", "a/", "a\x00", "\x00", "\xff", "é", "e\u0301", strings.Repeat("x", 3000)}
	l := New()
	for k, key := range keys {
		asks(t, l, key, strconv.Itoa(k%8)+"w", true)
		asks(t, l, key, strconv.Itoa((k+3)%8)+"r", false)
	}
	for k, key := range keys {
		has(t, l, key, strconv.Itoa(k%8)+"w", strconv.Itoa((k+3)%8))
	}
	for k, key := range keys {
		keeps(t, l, key, api.ErrNone, (k+3)%8)
		frees(t, l, key, k%8, strconv.Itoa((k+3)%8))
		has(t, l, key, strconv.Itoa((k+3)%8), "")
		for n, other := range keys[k+1:] {
			n += k + 1
			has(t, l, other, strconv.Itoa(n%8)+"w", strconv.Itoa((n+3)%8))
		}
	}
	has(t, l, "b", "", "")
}

// Locks have nothing to do with other locks.
func TestOthers(t *testing.T) {
	l, other := New(), New()
	asks(t, l, "a", "0w", true)
	asks(t, other, "a", "0w", true)
	asks(t, l, "a", "1w", false)
	has(t, other, "a", "0w", "")
	frees(t, other, "a", 0, "")
	has(t, l, "a", "0w", "1")
}

// What nobody holds any more is not kept, and what is asked of is not.
func TestKept(t *testing.T) {
	l := New()
	for k := range 1000 {
		key := strconv.Itoa(k)
		asks(t, l, key, "0w", true)
		asks(t, l, key, "1w", false)
		frees(t, l, key, 0, "1")
		has(t, l, key, "1w", "")
		frees(t, l, key, 1, "")
		keeps(t, l, key, api.ErrNone, 0)
		refuses(t, l, key, api.ErrArg, 8)
		has(t, l, key, "", "")
	}
	if len(l.at) > 0 {
		t.Fatalf("%d keys are kept", len(l.at))
	}
}

// Very many keys, and very many who come and go, do not take very long.
func TestMany(t *testing.T) {
	l := New()
	for k := range 100000 {
		asks(t, l, strconv.Itoa(k), "0r 7r", true)
	}
	frees(t, l, "7", 0, "")
	frees(t, l, "7", 7, "")
	asks(t, l, "7", "1w", true)
	asks(t, l, "7", "2w", false)
	for k := range 300000 {
		frees(t, l, "7", 1+k%6, strconv.Itoa(1+(k+1)%6))
		asks(t, l, "7", strconv.Itoa(1+(k+2)%6)+"w", false)
	}
	has(t, l, "7", "1w", "2")
}

// Locks that nothing made answer zero values, and do nothing.
func TestNone(t *testing.T) {
	for _, l := range []*Locks{nil, {}, new(Locks)} {
		for range 2 {
			refuses(t, l, "a", api.ErrNil, 0, 7, 8, -1)
			keeps(t, l, "a", api.ErrNil, 0, 7, 8, -1)
			has(t, l, "a", "", "")
			has(t, l, "", "", "")
		}
	}
}

// What is answered is nobody else's.
func TestMemory(t *testing.T) {
	l := New()
	asks(t, l, "a", "0w", true)
	asks(t, l, "a", "1r 2r 3w 4w", false)
	next, _ := l.Free(0, "a")
	holders, _ := l.Holds("a")
	waits := l.Waits("a")
	for _, answer := range [][]int{next, holders, waits} {
		for k := range answer[:cap(answer)] {
			answer[:cap(answer)][k] = 9
		}
		has(t, l, "a", "1 2", "3 4")
	}
	asks(t, l, "a", "5r", false)
	frees(t, l, "a", 1, "")
	frees(t, l, "a", 2, "3")
	has(t, l, "a", "3w", "4 5")
	for _, answer := range [][]int{next, holders, waits} {
		if slices.ContainsFunc(answer, func(who int) bool { return who != 9 }) {
			t.Fatalf("an answer is changed: %s", told(answer))
		}
	}
}

// A key that is handed in is not kept: its text may be changed behind the call.
func TestTexts(t *testing.T) {
	l := New()
	bytes := []byte("key")
	for _, clients := range []struct{ text, holders, row string }{{"0r", "0", ""}, {"1r", "0 1", ""}} {
		asks(t, l, unsafe.String(&bytes[0], 3), clients.text, true)
		copy(bytes, "xxx")
		has(t, l, "key", clients.holders, clients.row)
		has(t, l, "xxx", "", "")
		copy(bytes, "key")
	}
	asks(t, l, unsafe.String(&bytes[0], 3), "2w", false)
	copy(bytes, "xxx")
	has(t, l, "key", "0 1", "2")
	copy(bytes, "key")
	if next, err := l.Free(0, unsafe.String(&bytes[0], 3)); len(next) > 0 || err != api.OK {
		t.Fatalf("Free: %s, error %d", told(next), err)
	}
	copy(bytes, "xxx")
	frees(t, l, "key", 1, "2")
	has(t, l, "key", "2w", "")
}
