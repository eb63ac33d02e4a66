package tally

import (
	"fmt"
	"math/rand"
	"slices"
	"strings"
	"sync"
	"testing"
	"unsafe"
)

// set is a Set that must make the next version.
func set(t *testing.T, book *Book, want int, changes ...Entry) {
	t.Helper()
	handedIn := slices.Clone(changes)
	if number, e := book.Set(changes...); number != want || e != OK {
		t.Errorf("P6: Set of %s = %d, %d, want %d, 0", brief(handedIn), number, e, want)
	}
	if !slices.Equal(changes, handedIn) {
		t.Errorf("P1: Set changed its list of %s", brief(handedIn))
	}
}

// expectVersion holds a version against its table: the sum, the values at some keys and a proof of them.
func expectVersion(t *testing.T, book *Book, version int, table []Entry, keys ...int) {
	t.Helper()
	if sum, e := book.Root(version); sum != wantedSum(table, 0, maxKey) || e != OK {
		t.Errorf("P6: Root(%d) = %x, %d, want that of %s", version, sum, e, brief(table))
	}
	values := valuesIn(table, keys)
	for i, key := range keys {
		if value, e := book.Get(version, key); value != values[i] || e != OK {
			t.Errorf("P6: Get(%d, %d) = %q, %d, want %q, 0", version, key, value, e, values[i])
		}
	}
	handedIn := slices.Clone(keys)
	want := wantedProof(table, keys, 0, maxKey)
	if proof, e := book.Prove(version, keys...); proof != want || e != OK {
		t.Errorf("P6: Prove(%d, %v) = %x, %d, want %x, 0", version, handedIn, proof, e, want)
	}
	if !slices.Equal(keys, handedIn) {
		t.Errorf("P1: Prove changed its keys %v", handedIn)
	}
}

func expectNoVersion(t *testing.T, book *Book, version int) {
	t.Helper()
	if sum, e := book.Root(version); sum != (Sum{}) || e != ErrVersion {
		t.Errorf("P6: Root(%d) = %x, %d, want zeros, 5", version, sum, e)
	}
	for _, key := range []int{0, 1, maxKey, -1, maxKey + 1} {
		if value, e := book.Get(version, key); value != "" || e != ErrVersion {
			t.Errorf("P6: Get(%d, %d) = %q, %d, want none, 5", version, key, value, e)
		}
	}
	for _, keys := range [][]int{nil, {1}, {-1}, {maxKey + 1}, {2, 1}, {1, 1}, make([]int, maxKeys+1)} {
		if proof, e := book.Prove(version, keys...); proof != "" || e != ErrVersion {
			t.Errorf("P6: Prove(%d, %v) = %x, %d, want none, 5", version, keys, proof, e)
		}
	}
}

func TestNewBook(t *testing.T) {
	book := New()
	expectVersion(t, book, 0, nil)
	expectVersion(t, book, 0, nil, 0, 1, maxKey)
	for _, version := range []int{1, 2, -1, maxVersions, maxVersions + 1, 1 << 32, -1 << 32, -1 << 63, 1<<63 - 1} {
		expectNoVersion(t, book, version)
	}
	set(t, book, 1, Entry{0, "a"})
	expectVersion(t, book, 0, nil, 0, 1, maxKey)
}

func TestBookOfSeveralVersions(t *testing.T) {
	longest := strings.Repeat("\xff", maxValue)
	book := New()
	tables := [][]Entry{nil}
	for i, x := range []struct {
		changes, table []Entry
	}{
		{nil, nil},
		{[]Entry{{5, ""}}, nil},
		{[]Entry{{0, "a"}, {maxKey, longest}}, []Entry{{0, "a"}, {maxKey, longest}}},
		{[]Entry{{0, "\x00"}}, []Entry{{0, "\x00"}, {maxKey, longest}}},
		{nil, []Entry{{0, "\x00"}, {maxKey, longest}}},
		{[]Entry{{0, "\x00"}, {1, ""}, {maxKey, longest}}, []Entry{{0, "\x00"}, {maxKey, longest}}},
		{[]Entry{{0, ""}, {1, "b"}, {maxKey - 1, "c"}}, []Entry{{1, "b"}, {maxKey - 1, "c"}, {maxKey, longest}}},
		{[]Entry{{1, ""}, {maxKey, ""}}, []Entry{{maxKey - 1, "c"}}},
		{[]Entry{{0, ""}, {maxKey, ""}}, []Entry{{maxKey - 1, "c"}}},
		{[]Entry{{maxKey - 1, ""}}, nil},
		{[]Entry{{maxKey, "z"}}, []Entry{{maxKey, "z"}}},
		{[]Entry{{0, "a"}, {maxKey, ""}}, []Entry{{0, "a"}}},
	} {
		set(t, book, i+1, x.changes...)
		tables = append(tables, x.table)
		for version, table := range tables {
			expectVersion(t, book, version, table, 0, 1, 5, maxKey-1, maxKey)
		}
		expectNoVersion(t, book, len(tables))
		expectNoVersion(t, book, -1)
	}
	for _, version := range []int{12, 0, 7, 3, 7, 12, 1} {
		expectVersion(t, book, version, tables[version])
		expectVersion(t, book, version, tables[version], 1, 40000, maxKey)
	}
}

// drawStep draws changes of a table that stays well below maxEntries: from some size on they only take out.
func drawStep(source *rand.Rand, table []Entry, highest int) []Entry {
	keys := randomKeys(source, source.Intn(maxKeys+1), highest)
	if source.Intn(2) == 0 && highest == maxKey {
		keys = keysNear(source, table, source.Intn(maxKeys+1))
	}
	if len(table) > maxEntries/2 {
		return drawChanges(source, keys, 2)
	}
	return drawChanges(source, keys, 1)
}

// Every version, however old, stays the table that it was made as, and a proof of one leads to the sum of the next.
func TestBookOfDrawnVersions(t *testing.T) {
	source := rand.New(rand.NewSource(11))
	for _, highest := range []int{maxKeys, 300, maxKey} {
		book := New()
		tables := [][]Entry{nil}
		for version := 1; version <= maxVersions; version++ {
			last := tables[version-1]
			changes := drawStep(source, last, highest)
			tables = append(tables, tableBehind(last, changes))
			expectUpdateOfVersion(t, book, version-1, changes, wantedSum(tables[version], 0, maxKey))
			set(t, book, version, changes...)
			older := source.Intn(version)
			expectVersion(t, book, older, tables[older], keysNear(source, tables[older], 5)...)
		}
		for _, version := range source.Perm(len(tables)) {
			expectVersion(t, book, version, tables[version], keysNear(source, tables[version], maxKeys)...)
			expectVersion(t, book, version, tables[version], randomKeys(source, maxKeys, highest)...)
		}
	}
}

func expectUpdateOfVersion(t *testing.T, book *Book, version int, changes []Entry, want Sum) {
	t.Helper()
	root, _ := book.Root(version)
	proof, _ := book.Prove(version, keysOf(changes)...)
	expectUpdate(t, root, proof, changes, want)
}

// told is all that a book's calls tell, in one text.
func told(book *Book) string {
	var text strings.Builder
	for version := -1; version <= maxVersions+1; version++ {
		sum, e1 := book.Root(version)
		fmt.Fprintf(&text, "%d: %x %d", version, sum, e1)
		for key := 0; key <= maxKey; key += 4369 {
			value, e2 := book.Get(version, key)
			proof, e3 := book.Prove(version, key)
			fmt.Fprintf(&text, " %d %q %d %x %d", key, value, e2, proof, e3)
		}
	}
	return text.String()
}

// expectSetRefused holds a book against itself behind a Set with an error.
func expectSetRefused(t *testing.T, name string, book *Book, want Errno, changes ...Entry) {
	t.Helper()
	before, handedIn := told(book), slices.Clone(changes)
	if number, e := book.Set(changes...); number != 0 || e != want {
		t.Errorf("P6: %s: Set = %d, %d, want 0, %d", name, number, e, want)
	}
	if !slices.Equal(changes, handedIn) {
		t.Errorf("P1: %s: Set changed its list", name)
	}
	if told(book) != before {
		t.Errorf("P1: %s: behind the error the book is another one", name)
	}
}

func TestSetRefuses(t *testing.T) {
	long := strings.Repeat("v", maxValue+1)
	allWrong := make([]Entry, maxEntries+1)
	for i := range allWrong {
		allWrong[i] = Entry{-i, long}
	}
	for _, table := range [][]Entry{nil, {{0, "a"}, {4369, "b"}}, evenTable(0, 257, maxEntries)} {
		book := New()
		set(t, book, 1, table...)
		for _, x := range []struct {
			name    string
			changes []Entry
			want    Errno
		}{
			{"one change too many", evenTable(0, 1, maxEntries+1), ErrMany},
			{"too many that take out", make([]Entry, maxEntries+1), ErrMany},
			{"too many, and all else wrong", allWrong, ErrMany},
			{"very many", make([]Entry, 1<<20), ErrMany},
			{"a key below 0", []Entry{{-1, "a"}}, ErrKey},
			{"a key below 0 taken out", []Entry{{-1, ""}}, ErrKey},
			{"a key above the greatest", []Entry{{maxKey + 1, "a"}}, ErrKey},
			{"the least number", []Entry{{-1 << 63, "a"}}, ErrKey},
			{"the greatest number", []Entry{{1<<63 - 1, "a"}}, ErrKey},
			{"a key that would wrap round to one", []Entry{{1 << 32, "a"}}, ErrKey},
			{"a wrong key behind wrong order and a value too long", []Entry{{5, long}, {4, ""}, {maxKey + 1, ""}}, ErrKey},
			{"a key twice", []Entry{{0, "n"}, {0, "n"}}, ErrOrder},
			{"a key set and taken out", []Entry{{0, "n"}, {4369, "n"}, {4369, ""}}, ErrOrder},
			{"keys that fall, and a value too long", []Entry{{4369, long}, {0, ""}}, ErrOrder},
			{"a value too long", []Entry{{0, long}}, ErrValue},
			{"the last value too long", []Entry{{0, ""}, {1, "n"}, {4369, long}}, ErrValue},
			{"a very long value", []Entry{{0, strings.Repeat("v", 1<<20)}}, ErrValue},
		} {
			expectSetRefused(t, x.name, book, x.want, x.changes...)
		}
		set(t, book, 2, Entry{0, "n"})
		expectVersion(t, book, 1, table, 0, 1, 4369)
		expectVersion(t, book, 2, tableBehind(table, []Entry{{0, "n"}}), 0, 1, 4369)
	}
}

func TestSetWithMaxEntriesChanges(t *testing.T) {
	book := New()
	first, second := evenTable(0, 2, maxEntries), evenTable(0, 1, maxEntries)
	takenOut := make([]Entry, maxEntries)
	for i := range takenOut {
		takenOut[i].Key = 2 * i
	}
	set(t, book, 1, takenOut...)
	expectVersion(t, book, 1, nil, 0, 2)
	set(t, book, 2, first...)
	expectVersion(t, book, 2, first, 0, 1, 398, 399)
	set(t, book, 3, takenOut...)
	expectVersion(t, book, 3, nil, 0, 398)
	set(t, book, 4, second...)
	expectVersion(t, book, 4, second, 0, 199, 200)
	set(t, book, 5, evenTable(0, 1, maxEntries)...)
	expectVersion(t, book, 5, second, 0, 199, 200)
}

// A full table takes as many keys as go, and no more; other errors are answered ahead of that.
func TestSetOfFullTable(t *testing.T) {
	book := New()
	full := evenTable(0, 257, maxEntries)
	long := strings.Repeat("v", maxValue+1)
	set(t, book, 1, full[:maxEntries-1]...)
	expectSetRefused(t, "two more than one place", book, ErrMany, Entry{1, "a"}, full[maxEntries-1])
	set(t, book, 2, full[maxEntries-1])
	expectVersion(t, book, 2, full, 0, 257, 257*(maxEntries-1))

	expectSetRefused(t, "one more", book, ErrMany, Entry{1, "a"})
	expectSetRefused(t, "one more, the greatest key", book, ErrMany, Entry{maxKey, "a"})
	expectSetRefused(t, "one more, and a key taken out that is not there", book, ErrMany, Entry{1, "a"}, Entry{2, ""})
	expectSetRefused(t, "one more, and one set anew", book, ErrMany, Entry{0, "n"}, Entry{1, "a"})
	expectSetRefused(t, "two for one", book, ErrMany, Entry{0, ""}, Entry{1, "a"}, Entry{2, "a"})
	expectSetRefused(t, "one more, no key", book, ErrKey, Entry{1, "a"}, Entry{maxKey + 1, "a"})
	expectSetRefused(t, "one more, out of order", book, ErrOrder, Entry{2, "a"}, Entry{1, "a"})
	expectSetRefused(t, "one more, too long a value", book, ErrValue, Entry{1, long})
	expectSetRefused(t, "a whole table more", book, ErrMany, evenTable(1, 257, maxEntries)...)

	steps := [][]Entry{
		{{0, ""}, {1, "a"}},
		{{1, "b"}, {257, "c"}},
		{{2, ""}, {3, ""}},
		{{1, ""}, {2, "d"}, {257, ""}, {maxKey, "e"}},
		{{2, ""}, {maxKey, ""}},
		{{4, "f"}, {5, "g"}},
	}
	table := full
	for i, changes := range steps {
		table = tableBehind(table, changes)
		set(t, book, 3+i, changes...)
		expectVersion(t, book, 3+i, table, 0, 1, 2, 4, 257, maxKey)
	}
	expectSetRefused(t, "one more again", book, ErrMany, Entry{0, "a"})
	var halves []Entry
	for i, entry := range table[:maxEntries/2] {
		halves = append(halves, Entry{entry.Key, ""}, Entry{entry.Key + 100, fmt.Sprint(i)})
	}
	slices.SortFunc(halves, byKey)
	set(t, book, 9, halves...)
	expectVersion(t, book, 9, tableBehind(table, halves), halves[0].Key, halves[1].Key, halves[maxEntries-1].Key)
	expectVersion(t, book, 2, full, 0, 1, 257, maxKey)
}

func TestFullBook(t *testing.T) {
	book := New()
	tables := [][]Entry{nil}
	for version := 1; version <= maxVersions; version++ {
		changes := []Entry{{version % 7, fmt.Sprint(version)}, {60000 + version%3, ""}, {65000 + version, "v"}}
		if version%10 == 0 {
			changes = nil
		}
		if version%5 == 0 {
			book.Set(Entry{-1, ""}) // what is refused is no version
		}
		set(t, book, version, changes...)
		tables = append(tables, tableBehind(tables[version-1], changes))
	}
	long := strings.Repeat("v", maxValue+1)
	for _, changes := range [][]Entry{nil, {}, {{1, "a"}}, {{70000, ""}}, {{2, ""}, {1, ""}}, {{1, long}}, {{1, ""}}, make([]Entry, maxEntries+1)} {
		expectSetRefused(t, "a version too many", book, ErrMany, changes...)
	}
	for version, table := range tables {
		expectVersion(t, book, version, table, 1, 6, 65001, 65000+maxVersions)
	}
	expectNoVersion(t, book, maxVersions+1)
	expectNoVersion(t, book, -1)
}

func TestGetAndProveOfBookRefuse(t *testing.T) {
	book := New()
	table := evenTable(0, 2, maxEntries)
	set(t, book, 1, table...)
	for version := range 2 {
		for _, key := range []int{-1, maxKey + 1, 1 << 32, -1 << 63, 1<<63 - 1} {
			if value, e := book.Get(version, key); value != "" || e != ErrKey {
				t.Errorf("P6: Get(%d, %d) = %q, %d, want none, 1", version, key, value, e)
			}
		}
		falling := make([]int, maxKeys+1)
		for i := range falling {
			falling[i] = -i
		}
		for _, x := range []struct {
			keys []int
			want Errno
		}{
			{keysOf(table[:maxKeys+1]), ErrMany}, {make([]int, 1<<20), ErrMany}, {falling, ErrMany},
			{[]int{-1}, ErrKey}, {[]int{maxKey + 1}, ErrKey}, {[]int{2, 1, -1}, ErrKey}, {[]int{1, 1, maxKey + 1}, ErrKey},
			{[]int{2, 1}, ErrOrder}, {[]int{0, 0}, ErrOrder}, {[]int{1, 2, maxKey, maxKey}, ErrOrder},
		} {
			if proof, e := book.Prove(version, x.keys...); proof != "" || e != x.want {
				t.Errorf("P6: Prove(%d, %v) = %x, %d, want none, %d", version, x.keys[:min(5, len(x.keys))], proof, e, x.want)
			}
		}
	}
	expectVersion(t, book, 0, nil, keysOf(table[:maxKeys])...)
	expectVersion(t, book, 1, table, keysOf(table[:maxKeys])...)
	expectVersion(t, book, 1, table, keysOf(table[maxEntries-maxKeys:])...)
	expectVersion(t, book, 1, table)
}

// Their owners may do with the lists what they like, when the calls have answered.
func TestBooksKeepNoLists(t *testing.T) {
	book := New()
	list := []Entry{{1, "a"}, {2, "b"}, {40000, "c"}}
	table := slices.Clone(list)
	set(t, book, 1, list...)
	before := told(book)
	list[0], list[1], list[2] = Entry{2, ""}, Entry{7, "x"}, Entry{-1, "z"}
	keys := []int{1, 7, 40000}
	book.Prove(1, keys...)
	keys[0], keys[1], keys[2] = -1, -1, -1
	if told(book) != before {
		t.Error("P1: a book changes with the list that a version was made from")
	}
	set(t, book, 2, list[:2]...)
	list[0] = Entry{8, "y"}
	expectVersion(t, book, 1, table, 1, 2, 7, 8, 40000)
	expectVersion(t, book, 2, []Entry{{1, "a"}, {7, "x"}, {40000, "c"}}, 1, 2, 7, 8, 40000)
}

func TestBooksKeepNoTexts(t *testing.T) {
	book := New()
	text := strings.Repeat("text", 1000)
	set(t, book, 1, Entry{1, text[8:12]}, Entry{2, text[:maxValue]})
	for key, piece := range map[int]string{1: text[8:12], 2: text[:maxValue]} {
		value, _ := book.Get(1, key)
		if value != piece || unsafe.StringData(value) == unsafe.StringData(piece) {
			t.Errorf("P6: Get(1, %d) = %q: it must be %q in memory of the book's own", key, value, piece)
		}
	}
}

func TestBooksShareNothing(t *testing.T) {
	one, other := New(), New()
	table := evenTable(0, 300, 100)
	set(t, one, 1, table...)
	expectNoVersion(t, other, 1)
	expectVersion(t, other, 0, nil, 0, 300)
	set(t, other, 1, table...)
	before := told(other)
	set(t, one, 2, Entry{0, ""}, Entry{300, "n"})
	expectSetRefused(t, "of one book", one, ErrKey, Entry{-1, ""})
	if told(other) != before {
		t.Error("P1: a book changes with another one")
	}
	set(t, other, 2, Entry{300, ""})
	set(t, other, 3, Entry{0, "m"})
	expectVersion(t, one, 1, table, 0, 300)
	expectVersion(t, one, 2, tableBehind(table, []Entry{{0, ""}, {300, "n"}}), 0, 300)
	expectNoVersion(t, one, 3)
	expectVersion(t, other, 3, tableBehind(table, []Entry{{0, "m"}, {300, ""}}), 0, 300)
	third := New()
	expectVersion(t, third, 0, nil, 0, 300)
	expectNoVersion(t, third, 1)
}

// Books of the same Sets answer the same, whatever else is asked of them in between, and beside whatever other books.
func TestBooksAnswerByTheirCalls(t *testing.T) {
	source := rand.New(rand.NewSource(12))
	var steps [][]Entry
	var table []Entry
	for range 40 {
		steps = append(steps, drawStep(source, table, maxKey))
		table = tableBehind(table, steps[len(steps)-1])
	}
	quiet := New()
	for _, changes := range steps {
		quiet.Set(changes...)
	}
	want := told(quiet)
	var callers sync.WaitGroup
	for range 8 {
		callers.Go(func() {
			book := New()
			for version, changes := range steps {
				book.Root(version)
				book.Prove(version, 1, 30000)
				book.Set(Entry{1, "a"}, Entry{0, "a"})
				book.Set(changes...)
				book.Get(version, -1)
			}
			if told(book) != want {
				t.Error("P1: two books of the same Sets answer otherwise")
			}
		})
	}
	callers.Wait()
}

// Asking writes nothing, so that many may ask at the same time.
func TestAskingABookAtTheSameTime(t *testing.T) {
	book := New()
	set(t, book, 1, evenTable(0, 300, maxEntries)...)
	set(t, book, 2, Entry{300, ""}, Entry{301, "n"})
	answers := make([]string, 8)
	var callers sync.WaitGroup
	for i := range answers {
		callers.Go(func() { answers[i] = told(book) })
	}
	callers.Wait()
	for _, answer := range answers {
		if answer != answers[0] {
			t.Error("P1: a book answers otherwise when many ask")
		}
	}
}
