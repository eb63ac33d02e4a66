package tally

import (
	"crypto/sha256"
	"fmt"
	"math"
	"math/rand"
	"slices"
	"strings"
	"testing"
)

// joinedSum is H of parts joined, by the library's SHA-256 instead of the program's.
func joinedSum(parts ...[]byte) Sum {
	return sha256.Sum256(slices.Concat(parts...))
}

func wantedLeaf(entry Entry) Sum {
	value := sha256.Sum256([]byte(entry.Value))
	return joinedSum([]byte{0, byte(entry.Key / 256), byte(entry.Key % 256)}, value[:])
}

func wantedPair(left, right Sum) Sum {
	return joinedSum([]byte{1}, left[:], right[:])
}

// wantedSum sums the range from first to last by the document's words, with no tree: it looks through all entries at each node.
func wantedSum(table []Entry, first, last int) Sum {
	var inside []Entry
	for _, entry := range table {
		if first <= entry.Key && entry.Key <= last {
			inside = append(inside, entry)
		}
	}
	if len(inside) == 0 {
		return Sum{}
	}
	if len(inside) == 1 {
		return wantedLeaf(inside[0])
	}
	middle := (first + last) / 2
	return wantedPair(wantedSum(table, first, middle), wantedSum(table, middle+1, last))
}

// brief tells a table in a line, however long it is.
func brief(table []Entry) string {
	return fmt.Sprintf("%d entries %#v", len(table), table[:min(3, len(table))])
}

func expectSum(t *testing.T, table []Entry, want Sum) {
	t.Helper()
	handedIn := slices.Clone(table)
	sum, e := Root(table)
	if sum != want || e != OK {
		t.Errorf("P2: Root of %s = %x, %d, want %x, 0", brief(handedIn), sum, e, want)
	}
	if !slices.Equal(table, handedIn) {
		t.Errorf("P1: Root changed its list of %s", brief(handedIn))
	}
}

// evenTable has count entries, step apart, their values of 1 to maxValue bytes.
func evenTable(first, step, count int) []Entry {
	table := make([]Entry, count)
	for i := range table {
		table[i] = Entry{Key: first + i*step, Value: mixedText(i + maxValue)[i : i+1+i%maxValue]}
	}
	return table
}

func randomTable(source *rand.Rand, count, highest int) []Entry {
	table := make([]Entry, count)
	for i, key := range randomKeys(source, count, highest) {
		value := make([]byte, 1+source.Intn(maxValue))
		source.Read(value)
		table[i] = Entry{Key: key, Value: string(value)}
	}
	return table
}

func TestRootOfFewEntries(t *testing.T) {
	var z Sum
	expectSum(t, nil, z)
	expectSum(t, []Entry{}, z)
	for _, key := range []int{0, 1, 255, 256, 32767, 32768, 65534, 65535} {
		for _, value := range []string{"v", "\x00", strings.Repeat("w", maxValue-1), strings.Repeat("\xff", maxValue)} {
			entry := Entry{key, value}
			expectSum(t, []Entry{entry}, wantedLeaf(entry))
		}
	}
}

func TestRootOfTwoEntries(t *testing.T) {
	var z Sum
	low, high := Entry{0, "a"}, Entry{65535, "b"}
	expectSum(t, []Entry{low, high}, wantedPair(wantedLeaf(low), wantedLeaf(high)))

	low, high = Entry{32767, "a"}, Entry{32768, "b"}
	expectSum(t, []Entry{low, high}, wantedPair(wantedLeaf(low), wantedLeaf(high)))

	low, high = Entry{0, "a"}, Entry{1, "b"}
	want := wantedPair(wantedLeaf(low), wantedLeaf(high))
	for range 15 {
		want = wantedPair(want, z)
	}
	expectSum(t, []Entry{low, high}, want)

	low, high = Entry{65534, "a"}, Entry{65535, "b"}
	want = wantedPair(wantedLeaf(low), wantedLeaf(high))
	for range 15 {
		want = wantedPair(z, want)
	}
	expectSum(t, []Entry{low, high}, want)
}

// The counts lie around the one from which goroutines sum, and at the greatest.
func TestRootOfManyEntries(t *testing.T) {
	for _, count := range []int{2, 3, manyKeys - 1, manyKeys, manyKeys + 1, 2 * manyKeys, maxEntries - 1, maxEntries} {
		for _, step := range []int{1, 2, 256, 300} {
			highest := (count - 1) * step
			for _, first := range []int{0, (maxKey - highest) / 2, maxKey - highest} {
				table := evenTable(first, step, count)
				expectSum(t, table, wantedSum(table, 0, maxKey))
			}
		}
	}
}

func TestRootOfRandomTables(t *testing.T) {
	source := rand.New(rand.NewSource(1))
	for range 60 {
		for _, highest := range []int{maxEntries - 1, 1000, maxKey} {
			table := randomTable(source, source.Intn(maxEntries+1), highest)
			expectSum(t, table, wantedSum(table, 0, maxKey))
		}
	}
}

func TestRootTellsTablesApart(t *testing.T) {
	seen := map[Sum][]Entry{}
	for _, table := range [][]Entry{
		nil, {{0, "a"}}, {{0, "b"}}, {{1, "a"}}, {{256, "a"}}, {{0, "aa"}}, {{0, "a\x00"}},
		{{0, "a"}, {1, "b"}}, {{0, "b"}, {1, "a"}}, {{0, "a"}, {2, "b"}}, {{0, "ab"}, {1, "b"}}, {{0, "a"}, {1, "bb"}},
	} {
		sum, _ := Root(table)
		if other, ok := seen[sum]; ok {
			t.Errorf("P2: %v and %v have one sum", table, other)
		}
		seen[sum] = table
	}
}

func TestRootRefuses(t *testing.T) {
	long := strings.Repeat("v", maxValue+1)
	many := evenTable(0, 300, maxEntries+1)
	manyWrong := make([]Entry, 3*maxEntries)
	for i := range manyWrong {
		manyWrong[i] = Entry{-i, ""}
	}
	lastKeyWrong := evenTable(0, 300, maxEntries)
	lastKeyWrong[maxEntries-1].Key = maxKey + 1
	lastTwice := evenTable(0, 300, maxEntries)
	lastTwice[maxEntries-1].Key = lastTwice[maxEntries-2].Key
	lastEmpty := evenTable(0, 300, maxEntries)
	lastEmpty[maxEntries-1].Value = ""
	for _, x := range []struct {
		name  string
		table []Entry
		want  Errno
	}{
		{"one entry too many", many, ErrMany},
		{"too many, and all else wrong", manyWrong, ErrMany},
		{"a key below 0", []Entry{{-1, "a"}}, ErrKey},
		{"the least number", []Entry{{math.MinInt, "a"}}, ErrKey},
		{"a key above the greatest", []Entry{{maxKey + 1, "a"}}, ErrKey},
		{"the greatest number", []Entry{{math.MaxInt, "a"}}, ErrKey},
		{"a number that is a key in its lower bytes", []Entry{{1 << 32, "a"}}, ErrKey},
		{"the last key wrong", lastKeyWrong, ErrKey},
		{"a wrong key behind wrong order and values", []Entry{{5, ""}, {5, long}, {4, "a"}, {-1, "a"}}, ErrKey},
		{"a key twice", []Entry{{1, "a"}, {1, "a"}}, ErrOrder},
		{"keys that fall", []Entry{{2, "a"}, {1, "a"}}, ErrOrder},
		{"keys that rise and fall", []Entry{{1, "a"}, {3, "a"}, {2, "a"}}, ErrOrder},
		{"the last key twice", lastTwice, ErrOrder},
		{"wrong order behind wrong values", []Entry{{1, ""}, {2, long}, {2, "a"}}, ErrOrder},
		{"an empty value", []Entry{{1, ""}}, ErrValue},
		{"a value too long", []Entry{{1, long}}, ErrValue},
		{"a value of many bytes", []Entry{{1, strings.Repeat("v", 1<<20)}}, ErrValue},
		{"few letters, many bytes", []Entry{{1, strings.Repeat("é", maxValue/2+1)}}, ErrValue},
		{"the last value wrong", lastEmpty, ErrValue},
	} {
		handedIn := slices.Clone(x.table)
		if sum, e := Root(x.table); e != x.want || sum != (Sum{}) {
			t.Errorf("P2: Root of %s = %x, %d, want zeros, %d", x.name, sum, e, x.want)
		}
		if !slices.Equal(x.table, handedIn) {
			t.Errorf("P1: Root changed its list, of %s", x.name)
		}
	}
}
