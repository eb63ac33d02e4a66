package tally

import (
	"maps"
	"math"
	"math/rand"
	"slices"
	"strings"
	"testing"
)

func between(entries []Entry, first, last int) []Entry {
	var inside []Entry
	for _, entry := range entries {
		if first <= entry.Key && entry.Key <= last {
			inside = append(inside, entry)
		}
	}
	return inside
}

func keysBetween(keys []int, first, last int) []int {
	var inside []int
	for _, key := range keys {
		if first <= key && key <= last {
			inside = append(inside, key)
		}
	}
	return inside
}

func sumText(sum Sum) string { return string(sum[:]) }

func keyText(key int) string { return string([]byte{byte(key / 256), byte(key % 256)}) }

// leafText and asideLeafText are what stands for a leaf, told and aside.
func leafText(key int, value string) string {
	return "\x04" + keyText(key) + string([]byte{byte(len(value))}) + value
}

func asideLeafText(key int, value string) string {
	return "\x01" + keyText(key) + sumText(joinedSum([]byte(value)))
}

// wantedProof tells the range from first to last by the document's words, with no tree.
func wantedProof(table []Entry, keys []int, first, last int) string {
	inside, middle := between(table, first, last), (first+last)/2
	if len(keysBetween(keys, first, last)) == 0 {
		switch len(inside) {
		case 0:
			return "\x00"
		case 1:
			return asideLeafText(inside[0].Key, inside[0].Value)
		}
		return "\x02" + sumText(wantedSum(table, first, middle)) + sumText(wantedSum(table, middle+1, last))
	}
	switch len(inside) {
	case 0:
		return "\x03"
	case 1:
		return leafText(inside[0].Key, inside[0].Value)
	}
	return "\x05" + wantedProof(table, keys, first, middle) + wantedProof(table, keys, middle+1, last)
}

// expectProof answers the proof, so that tests may go on with it.
func expectProof(t *testing.T, table []Entry, keys []int, want string) string {
	t.Helper()
	tableIn, keysIn := slices.Clone(table), slices.Clone(keys)
	proof, e := Prove(table, keys)
	if proof != want || e != OK {
		t.Errorf("P3: Prove of %s, %v = %x, %d, want %x, 0", brief(tableIn), keysIn, proof, e, want)
	}
	if !slices.Equal(table, tableIn) || !slices.Equal(keys, keysIn) {
		t.Errorf("P1: Prove changed its lists, %s, %v", brief(tableIn), keysIn)
	}
	return proof
}

func randomKeys(source *rand.Rand, count, highest int) []int {
	return distinct(count, func() int { return source.Intn(highest + 1) })
}

// keysNear has keys of a table among others, so that proofs tell values, and of keys that end at another key's leaf.
func keysNear(source *rand.Rand, table []Entry, count int) []int {
	return distinct(count, func() int {
		if len(table) == 0 || source.Intn(3) == 0 {
			return source.Intn(maxKey + 1)
		}
		return min(max(table[source.Intn(len(table))].Key+source.Intn(3)-1, 0), maxKey)
	})
}

func distinct(count int, drawn func() int) []int {
	chosen := map[int]bool{}
	for len(chosen) < count {
		chosen[drawn()] = true
	}
	return slices.Sorted(maps.Keys(chosen))
}

func TestProveOfNoEntry(t *testing.T) {
	for _, table := range [][]Entry{nil, {}} {
		expectProof(t, table, nil, "\x00")
		expectProof(t, table, []int{}, "\x00")
		expectProof(t, table, []int{0}, "\x03")
		expectProof(t, table, []int{maxKey}, "\x03")
		expectProof(t, table, []int{0, 1, maxKey}, "\x03")
	}
}

func TestProveOfOneEntry(t *testing.T) {
	for _, key := range []int{0, 1, 255, 256, 32768, maxKey} {
		for _, value := range []string{"v", "\x00", strings.Repeat("w", maxValue)} {
			table := []Entry{{key, value}}
			expectProof(t, table, nil, asideLeafText(key, value))
			expectProof(t, table, []int{key}, leafText(key, value))
			expectProof(t, table, []int{key ^ 1}, leafText(key, value))
			expectProof(t, table, []int{key ^ 32768}, leafText(key, value))
		}
	}
}

func TestProveOfFewEntries(t *testing.T) {
	var z Sum
	low, middle, high := Entry{0, "a"}, Entry{40000, "xy"}, Entry{maxKey, strings.Repeat("z", maxValue)}
	table := []Entry{low, middle, high}
	upper := wantedPair(wantedLeaf(middle), wantedLeaf(high))
	expectProof(t, table, nil, "\x02"+sumText(wantedLeaf(low))+sumText(upper))
	expectProof(t, table, []int{0}, "\x05"+leafText(0, "a")+"\x02"+sumText(wantedLeaf(middle))+sumText(wantedLeaf(high)))
	expectProof(t, table, []int{7}, "\x05"+leafText(0, "a")+"\x02"+sumText(wantedLeaf(middle))+sumText(wantedLeaf(high)))
	expectProof(t, table, []int{40000}, "\x05"+asideLeafText(0, "a")+"\x05"+leafText(40000, "xy")+asideLeafText(maxKey, high.Value))
	expectProof(t, table, []int{0, 40001, maxKey}, "\x05"+leafText(0, "a")+"\x05"+leafText(40000, "xy")+leafText(maxKey, high.Value))
	expectProof(t, table[1:], nil, "\x02"+sumText(z)+sumText(upper))
	expectProof(t, table[1:], []int{3}, "\x05\x03\x02"+sumText(wantedLeaf(middle))+sumText(wantedLeaf(high)))
	expectProof(t, table[1:], []int{60000}, "\x05\x00\x05"+asideLeafText(40000, "xy")+leafText(maxKey, high.Value))
}

// The keys part at the last step, in ranges of one key.
func TestProveOfRangesOfOneKey(t *testing.T) {
	table := []Entry{{0, "a"}, {1, "b"}}
	steps, bare := strings.Repeat("\x05", 16), strings.Repeat("\x00", 15)
	expectProof(t, table, []int{0}, steps+leafText(0, "a")+asideLeafText(1, "b")+bare)
	expectProof(t, table, []int{1}, steps+asideLeafText(0, "a")+leafText(1, "b")+bare)
	expectProof(t, table, []int{0, 1}, steps+leafText(0, "a")+leafText(1, "b")+bare)
	expectProof(t, table, []int{0, 2}, steps+leafText(0, "a")+asideLeafText(1, "b")+"\x03"+bare[1:])

	table = []Entry{{maxKey - 1, "a"}, {maxKey, "b"}}
	step := "\x05\x00"
	expectProof(t, table, []int{maxKey}, strings.Repeat(step, 15)+"\x05"+asideLeafText(maxKey-1, "a")+leafText(maxKey, "b"))
}

func TestProveOfManyEntries(t *testing.T) {
	source := rand.New(rand.NewSource(2))
	for _, count := range []int{2, 3, manyKeys, 2*manyKeys + 1, maxEntries} {
		for _, highest := range []int{maxEntries, 1000, maxKey} {
			table := randomTable(source, count, highest)
			for _, keyCount := range []int{0, 1, 2, 7, maxKeys - 1, maxKeys} {
				keys := keysNear(source, table, keyCount)
				expectProof(t, table, keys, wantedProof(table, keys, 0, maxKey))
				keys = randomKeys(source, keyCount, highest)
				expectProof(t, table, keys, wantedProof(table, keys, 0, maxKey))
			}
		}
	}
}

func TestProveRefuses(t *testing.T) {
	table := []Entry{{1, "a"}, {2, "b"}}
	many := make([]int, maxKeys+1)
	for i := range many {
		many[i] = i
	}
	manyWrong := []int{-1}
	for range 2 * maxKeys {
		manyWrong = append(manyWrong, 5)
	}
	lastWrong := slices.Clone(many[:maxKeys])
	lastWrong[maxKeys-1] = maxKey + 1
	lastTwice := slices.Clone(many[:maxKeys])
	lastTwice[maxKeys-1] = maxKeys - 2
	for _, x := range []struct {
		name  string
		table []Entry
		keys  []int
		want  Errno
	}{
		{"too many entries, and all keys wrong", evenTable(0, 1, maxEntries+1), manyWrong, ErrMany},
		{"a table's key that is none, and too many keys", []Entry{{-1, ""}}, many, ErrKey},
		{"a table out of order, and too many keys", []Entry{{1, "a"}, {1, "b"}}, many, ErrOrder},
		{"a table's order, and a key that is none", []Entry{{1, "a"}, {1, "b"}}, []int{-1}, ErrOrder},
		{"a table's empty value, and too many keys", []Entry{{1, ""}}, many, ErrValue},
		{"a table's long value, and a key that is none", []Entry{{1, strings.Repeat("v", maxValue+1)}}, []int{-1}, ErrValue},
		{"one key too many", table, many, ErrMany},
		{"too many keys for no table", nil, many, ErrMany},
		{"too many keys, and all else wrong", table, manyWrong, ErrMany},
		{"a key below 0", table, []int{-1}, ErrKey},
		{"a key above the greatest", table, []int{maxKey + 1}, ErrKey},
		{"the least number", table, []int{math.MinInt}, ErrKey},
		{"the greatest number", table, []int{math.MaxInt}, ErrKey},
		{"a number that is a key in its lower bytes", table, []int{1 << 16}, ErrKey},
		{"the last key wrong", table, lastWrong, ErrKey},
		{"a wrong key behind wrong order", table, []int{2, 1, -1}, ErrKey},
		{"a key twice", table, []int{1, 1}, ErrOrder},
		{"keys that fall", table, []int{2, 1}, ErrOrder},
		{"the last key twice", table, lastTwice, ErrOrder},
	} {
		tableIn, keysIn := slices.Clone(x.table), slices.Clone(x.keys)
		if proof, e := Prove(x.table, x.keys); e != x.want || proof != "" {
			t.Errorf("P3: Prove of %s = %x, %d, want nothing, %d", x.name, proof, e, x.want)
		}
		if !slices.Equal(x.table, tableIn) || !slices.Equal(x.keys, keysIn) {
			t.Errorf("P1: Prove changed its lists, of %s", x.name)
		}
	}
}
