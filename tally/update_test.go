package tally

import (
	"math"
	"math/rand"
	"slices"
	"strings"
	"testing"
)

// tableBehind makes changes in a table by looking through all keys.
func tableBehind(table, changes []Entry) []Entry {
	values := map[int]string{}
	for _, entry := range slices.Concat(table, changes) {
		values[entry.Key] = entry.Value
	}
	var behind []Entry
	for key := range maxKey + 1 {
		if values[key] != "" {
			behind = append(behind, Entry{key, values[key]})
		}
	}
	return behind
}

func expectUpdate(t *testing.T, root Sum, proof string, changes []Entry, want Sum) {
	t.Helper()
	handedIn := slices.Clone(changes)
	if sum, e := Update(root, proof, changes); sum != want || e != OK {
		t.Errorf("P5: Update(%x, %x, %v) = %x, %d, want %x, 0", root, proof, handedIn, sum, e, want)
	}
	if !slices.Equal(changes, handedIn) {
		t.Errorf("P1: Update changed its list %v", handedIn)
	}
}

func expectUpdateOfTable(t *testing.T, table, changes []Entry) {
	t.Helper()
	proof := wantedProof(table, keysOf(changes), 0, maxKey)
	expectUpdate(t, wantedSum(table, 0, maxKey), proof, changes, wantedSum(tableBehind(table, changes), 0, maxKey))
}

func TestUpdateOfFewEntries(t *testing.T) {
	longest := strings.Repeat("v", maxValue)
	for _, table := range [][]Entry{
		nil, {{0, "a"}}, {{maxKey, "a"}}, {{0, "a"}, {1, "b"}}, {{0, "a"}, {2, "b"}}, {{0, "a"}, {maxKey, "b"}},
		{{maxKey - 1, "a"}, {maxKey, "b"}}, {{0, "a"}, {40000, longest}, {60000, "z"}},
		{{5, "a"}, {6, "b"}, {7, "c"}, {8, "d"}, {maxKey, "e"}},
	} {
		for _, changes := range [][]Entry{
			nil, {}, {{0, "n"}}, {{0, "a"}}, {{0, ""}}, {{1, ""}}, {{maxKey, ""}}, {{maxKey, longest}}, {{32767, ""}},
			{{0, ""}, {1, ""}}, {{0, ""}, {maxKey, ""}}, {{0, "x"}, {1, "y"}}, {{maxKey - 1, ""}, {maxKey, "y"}},
			{{5, ""}, {6, ""}, {7, ""}}, {{5, ""}, {6, ""}, {7, ""}, {8, ""}, {maxKey, ""}}, {{3, longest}, {maxKey, ""}},
			{{0, ""}, {5, "x"}, {40000, ""}, {60000, ""}, {maxKey, "y"}},
		} {
			expectUpdateOfTable(t, table, changes)
		}
	}
}

// Whatever is left is one leaf, some ranges up from where it stood: told at first, then aside.
func TestUpdateLeavesOneLeaf(t *testing.T) {
	left := wantedLeaf(Entry{6, "left"})
	for _, gone := range []int{7, 4, 0, 300, 40000} {
		table := []Entry{{gone, "gone"}, {6, "left"}}
		slices.SortFunc(table, byKey)
		root := wantedSum(table, 0, maxKey)
		aside := []Entry{{gone, ""}}
		expectUpdate(t, root, wantedProof(table, []int{gone}, 0, maxKey), aside, left)
		told := []Entry{{5, ""}, {gone, ""}}
		slices.SortFunc(told, byKey)
		expectUpdate(t, root, wantedProof(table, keysOf(told), 0, maxKey), told, left)
	}
}

func TestUpdateOfManyEntries(t *testing.T) {
	source := rand.New(rand.NewSource(5))
	for _, count := range []int{1, 2, 5, manyKeys, maxEntries} {
		for _, highest := range []int{maxEntries, 1000, maxKey} {
			table := randomTable(source, count, highest)
			for _, changeCount := range []int{1, 2, maxKeys - 1, maxKeys} {
				for _, taken := range []int{0, 1, 2} {
					changes := drawChanges(source, keysNear(source, table, changeCount), taken)
					expectUpdateOfTable(t, table, changes)
				}
			}
		}
	}
}

// drawChanges takes no key out, about half of them, or all.
func drawChanges(source *rand.Rand, keys []int, taken int) []Entry {
	changes := make([]Entry, len(keys))
	for i, key := range keys {
		changes[i].Key = key
		if source.Intn(2) >= taken {
			changes[i].Value = mixedText(maxValue + i)[i : i+1+source.Intn(maxValue)]
		}
	}
	return changes
}

func TestUpdateOfDrawnProofs(t *testing.T) {
	source := rand.New(rand.NewSource(6))
	for i := range 2000 {
		highest := []int{maxKeys, 300, maxKey}[i%3]
		keys := randomKeys(source, source.Intn(maxKeys+1), highest)
		d := draw(source, keys, false)
		for _, taken := range []int{0, 1, 2} {
			changes := drawChanges(source, keys, taken)
			expectUpdate(t, d.sum, d.text, changes, d.sumBehind(changes))
		}
	}
	for range 2000 {
		keys := randomKeys(source, source.Intn(maxKeys+1), maxKey)
		if d := draw(source, keys, true); d.broken {
			expectRefusal(t, "a drawn text that is no proof", d.sum, d.text, drawChanges(source, keys, 1), ErrProof)
		}
	}
}

// Proofs of no table: the tree is made by the rule where it is changed, however it was told.
func TestUpdateOfProofsOfNoTable(t *testing.T) {
	var z Sum
	bareBranch := wantedPair(z, z)
	a0, b0 := wantedLeaf(Entry{0, "a"}), wantedLeaf(Entry{0, "b"})
	aside := wantedLeaf(Entry{40000, "c"})
	bareDeep, bareDeepSum := deepProof("\x03", z)
	for _, x := range []struct {
		name   string
		root   Sum
		proof  string
		change Entry
		want   Sum
	}{
		{"a branch above no key stays without one", bareBranch, "\x05\x03\x00", Entry{1, ""}, z},
		{"a branch above no key gets one", bareBranch, "\x05\x03\x00", Entry{0, "b"}, b0},
		{"many branches above no key", bareDeepSum, bareDeep, Entry{0, ""}, z},
		{"many branches above no key get one", bareDeepSum, bareDeep, Entry{0, "b"}, b0},
		{"a branch above one leaf", wantedPair(a0, z), "\x05" + leafText(0, "a") + "\x00", Entry{0, "b"}, b0},
		{"a branch above one leaf that goes", wantedPair(a0, z), "\x05" + leafText(0, "a") + "\x00", Entry{0, ""}, z},
		{"a branch above one leaf aside", wantedPair(z, aside), "\x05\x03" + asideLeafText(40000, "c"), Entry{0, ""}, aside},
		{"a pair aside stays one, of Z and Z, too", wantedPair(a0, bareBranch), "\x05" + leafText(0, "a") + "\x02" + sumText(z) + sumText(z), Entry{0, ""}, wantedPair(z, bareBranch)},
	} {
		sum, e := Update(x.root, x.proof, []Entry{x.change})
		if sum != x.want || e != OK {
			t.Errorf("P5: %s: Update = %x, %d, want %x", x.name, sum, e, x.want)
		}
	}
}

func TestUpdateWithNoChanges(t *testing.T) {
	for _, table := range [][]Entry{nil, {{7, "a"}}, {{7, "a"}, {8, "b"}}, evenTable(0, 300, maxEntries)} {
		root := wantedSum(table, 0, maxKey)
		expectUpdate(t, root, wantedProof(table, nil, 0, maxKey), nil, root)
		expectRefusal(t, "a proof of a key, and no changes", root, wantedProof(table, []int{7}, 0, maxKey), nil, ErrProof)
	}
}

func expectRefusal(t *testing.T, name string, root Sum, proof string, changes []Entry, want Errno) {
	t.Helper()
	handedIn := slices.Clone(changes)
	if sum, e := Update(root, proof, changes); e != want || sum != (Sum{}) {
		t.Errorf("P5: %s: Update = %x, %d, want zeros, %d", name, sum, e, want)
	}
	if !slices.Equal(changes, handedIn) {
		t.Errorf("P1: %s: Update changed its list", name)
	}
}

func TestUpdateRefusesChanges(t *testing.T) {
	var z Sum
	long := strings.Repeat("v", maxValue+1)
	many := evenTable(0, 1, maxKeys+1)
	manyWrong := make([]Entry, 3*maxKeys)
	for i := range manyWrong {
		manyWrong[i] = Entry{-i, long}
	}
	for _, x := range []struct {
		name    string
		proof   string
		changes []Entry
		want    Errno
	}{
		{"one change too many", "\x03", many, ErrMany},
		{"too many, and all else wrong", "x", manyWrong, ErrMany},
		{"very many", "\x03", make([]Entry, 1<<20), ErrMany},
		{"a key below 0", "\x03", []Entry{{-1, "a"}}, ErrKey},
		{"a key above the greatest", "\x03", []Entry{{maxKey + 1, ""}}, ErrKey},
		{"the least number", "\x03", []Entry{{math.MinInt, ""}}, ErrKey},
		{"the greatest number", "\x03", []Entry{{math.MaxInt, ""}}, ErrKey},
		{"a wrong key behind wrong order and values, and no proof", "x", []Entry{{5, long}, {4, ""}, {maxKey + 1, ""}}, ErrKey},
		{"a key twice", "\x03", []Entry{{1, "a"}, {1, ""}}, ErrOrder},
		{"keys that fall, a value too long, and no proof", "x", []Entry{{2, long}, {1, ""}}, ErrOrder},
		{"a value too long", "\x03", []Entry{{1, long}}, ErrValue},
		{"the last value too long, and no proof", "x", []Entry{{1, ""}, {2, long}}, ErrValue},
		{"a very long value", "\x03", []Entry{{1, strings.Repeat("v", 1<<20)}}, ErrValue},
		{"no proof", "x", []Entry{{1, ""}}, ErrProof},
		{"nothing for a proof", "", []Entry{{1, ""}}, ErrProof},
	} {
		expectRefusal(t, x.name, z, x.proof, x.changes, x.want)
	}
	expectUpdate(t, z, "\x03", many[:maxKeys], wantedSum(many[:maxKeys], 0, maxKey))
	expectUpdate(t, z, "\x03", []Entry{{0, long[1:]}, {maxKey, ""}}, wantedLeaf(Entry{0, long[1:]}))
}

func TestUpdateRefusesProofs(t *testing.T) {
	table := []Entry{{0, "a"}, {40000, "xy"}, {60000, "z"}}
	root := wantedSum(table, 0, maxKey)
	changes := []Entry{{0, ""}, {40000, "n"}}
	proof := wantedProof(table, keysOf(changes), 0, maxKey)
	for i := range proof {
		expectRefusal(t, "a proof that breaks off", root, proof[:i], changes, ErrProof)
		for _, turned := range []byte{1, 4, 128} {
			other := []byte(proof)
			other[i] ^= turned
			expectRefusal(t, "a proof with a byte turned", root, string(other), changes, ErrProof)
		}
	}
	expectRefusal(t, "a byte behind the proof", root, proof+"\x00", changes, ErrProof)
	expectRefusal(t, "fewer changes than the proof's keys", root, proof, changes[:1], ErrProof)
	expectRefusal(t, "more changes than the proof's keys", root, proof, append(slices.Clone(changes), Entry{60000, ""}), ErrProof)
	expectRefusal(t, "another root", wantedSum(table[:2], 0, maxKey), proof, changes, ErrProof)
	expectRefusal(t, "the root of no entry", Sum{}, proof, changes, ErrProof)
	z := Sum{}
	for _, x := range []struct {
		name  string
		root  Sum
		proof string
	}{
		{"an empty value", wantedLeaf(Entry{0, ""}), leafText(0, "")},
		{"a value too long", wantedLeaf(Entry{0, strings.Repeat("v", maxValue+1)}), leafText(0, strings.Repeat("v", maxValue+1))},
		{"a leaf in the wrong half", wantedPair(wantedLeaf(Entry{40000, "a"}), z), "\x05" + leafText(40000, "a") + "\x00"},
		{"an aside leaf in the wrong half", wantedPair(z, wantedLeaf(Entry{9, "a"})), "\x05\x03" + asideLeafText(9, "a")},
		{"as if aside", z, "\x00"},
		{"not as if aside", wantedPair(z, z), "\x05\x03\x03"},
	} {
		expectRefusal(t, x.name, x.root, x.proof, []Entry{{0, "b"}}, ErrProof)
	}
}

// The sum behind a change is that of a table, so that the next change can start from it.
func TestUpdateAgainAndAgain(t *testing.T) {
	source := rand.New(rand.NewSource(7))
	var table []Entry
	var root Sum
	for range 120 {
		changes := drawChanges(source, randomKeys(source, 1+source.Intn(5), 60), 1)
		proof, _ := Prove(table, keysOf(changes))
		table = tableBehind(table, changes)
		expectUpdate(t, root, proof, changes, wantedSum(table, 0, maxKey))
		root, _ = Update(root, proof, changes)
	}
}
