package tally

import (
	"math"
	"math/rand"
	"slices"
	"strings"
	"testing"
)

func valuesIn(table []Entry, keys []int) []string {
	values := make([]string, len(keys))
	for i, key := range keys {
		if here := between(table, key, key); len(here) > 0 {
			values[i] = here[0].Value
		}
	}
	return values
}

func expectVerify(t *testing.T, name string, root Sum, proof string, keys []int, values []string, want bool) {
	t.Helper()
	keysIn, valuesIn := slices.Clone(keys), slices.Clone(values)
	if got := Verify(root, proof, keys, values); got != want {
		t.Errorf("P4: %s: Verify(%x, %x, %v, %q) = %v", name, root, proof, keys, values, got)
	}
	if !slices.Equal(keys, keysIn) || !slices.Equal(values, valuesIn) {
		t.Errorf("P1: %s: Verify changed its lists", name)
	}
}

// expectVerifyJustTheseValues also asks with other values at each key, more of them, fewer, and another root.
func expectVerifyJustTheseValues(t *testing.T, root Sum, proof string, keys []int, values []string) {
	t.Helper()
	expectVerify(t, "the values told", root, proof, keys, values, true)
	for i := range keys {
		for _, other := range []string{"", values[i] + "x", values[i] + "\x00", strings.Repeat("o", maxValue)} {
			if other != values[i] {
				changed := slices.Clone(values)
				changed[i] = other
				expectVerify(t, "another value", root, proof, keys, changed, false)
			}
		}
	}
	expectVerify(t, "a value more", root, proof, keys, append(slices.Clone(values), ""), false)
	if len(keys) > 0 {
		expectVerify(t, "a value fewer", root, proof, keys, values[1:], false)
		expectVerify(t, "no values", root, proof, keys, nil, false)
	}
	for _, place := range []int{0, 17, 31} {
		root[place] ^= 4
		expectVerify(t, "another root", root, proof, keys, values, false)
		root[place] ^= 4
	}
}

func TestVerifyProofsOfTables(t *testing.T) {
	source := rand.New(rand.NewSource(3))
	for _, count := range []int{0, 1, 2, 3, manyKeys, maxEntries} {
		for _, highest := range []int{maxEntries, 2000, maxKey} {
			table := randomTable(source, count, highest)
			root := wantedSum(table, 0, maxKey)
			for _, keyCount := range []int{0, 1, 2, 7, maxKeys} {
				keys := keysNear(source, table, keyCount)
				proof, _ := Prove(table, keys)
				expectVerifyJustTheseValues(t, root, proof, keys, valuesIn(table, keys))
			}
		}
	}
}

func TestVerifyAtTheEdgesOfKeys(t *testing.T) {
	for _, table := range [][]Entry{nil, {{0, "a"}}, {{maxKey, "b"}}, {{0, "a"}, {1, "b"}}, {{maxKey - 1, "a"}, {maxKey, strings.Repeat("b", maxValue)}}, {{0, strings.Repeat("a", maxValue)}, {maxKey, "b"}}} {
		root := wantedSum(table, 0, maxKey)
		for _, keys := range [][]int{nil, {0}, {1}, {maxKey}, {maxKey - 1}, {32767}, {0, maxKey}, {0, 1, maxKey - 1, maxKey}} {
			proof := wantedProof(table, keys, 0, maxKey)
			expectVerifyJustTheseValues(t, root, proof, keys, valuesIn(table, keys))
		}
	}
}

// A proof of some keys is one of others, if each node is aside for both or for neither.
func TestVerifyWithOtherKeys(t *testing.T) {
	table := []Entry{{0, "a"}, {40000, "xy"}, {60000, "z"}}
	root := wantedSum(table, 0, maxKey)
	proof := wantedProof(table, []int{0, 40000}, 0, maxKey)
	for _, x := range []struct {
		keys   []int
		values []string
		want   bool
	}{
		{[]int{0, 40000}, []string{"a", "xy"}, true},
		{[]int{7, 40000}, []string{"", "xy"}, true},
		{[]int{0, 32768}, []string{"a", ""}, true},
		{[]int{0, 7, 32767, 40000, 40001}, []string{"a", "", "", "xy", ""}, true},
		{[]int{0}, []string{"a"}, false},
		{[]int{40000}, []string{"xy"}, false},
		{[]int{0, 60000}, []string{"a", "z"}, false},
		{[]int{0, 40000, 60000}, []string{"a", "xy", "z"}, false},
		{[]int{0, 40000, 60000}, []string{"a", "xy", ""}, false},
		{nil, nil, false},
	} {
		expectVerify(t, "other keys", root, proof, x.keys, x.values, x.want)
	}
}

func TestVerifyRefusesKeys(t *testing.T) {
	var z Sum
	many := make([]int, maxKeys+1)
	for i := range many {
		many[i] = i
	}
	none := make([]string, maxKeys+1)
	expectVerify(t, "as many keys as may be", z, "\x03", many[:maxKeys], none[:maxKeys], true)
	expectVerify(t, "one key too many", z, "\x03", many, none, false)
	expectVerify(t, "one key too many, fewer values", z, "\x03", many, none[:maxKeys], false)
	expectVerify(t, "very many keys", z, "\x03", make([]int, 1<<20), make([]string, 1<<20), false)
	for _, keys := range [][]int{{-1}, {maxKey + 1}, {math.MinInt}, {math.MaxInt}, {1 << 32}, {1, 1}, {2, 1}, {0, 5, 4}, {0, maxKey + 1}, {-1, 0}} {
		expectVerify(t, "keys that are none, or do not rise", z, "\x03", keys, none[:len(keys)], false)
	}
	expectVerify(t, "no keys, and a value", z, "\x00", nil, none[:1], false)
	expectVerify(t, "no keys and no values", z, "\x00", nil, nil, true)
	expectVerify(t, "no keys and no values", z, "\x00", []int{}, []string{}, true)
}

// deepProof goes down to the range of key 0 alone, where it has a text of a sum.
func deepProof(text string, sum Sum) (string, Sum) {
	for range 16 {
		text, sum = "\x05"+text+"\x00", wantedPair(sum, Sum{})
	}
	return text, sum
}

// The roots are those that come of the texts as far as they can be read, so that it is the text that is refused.
func TestVerifyProofsMadeByHand(t *testing.T) {
	var z Sum
	bareBranch := wantedPair(z, z)
	a0, a9 := wantedLeaf(Entry{0, "a"}), wantedLeaf(Entry{9, "a"})
	long := strings.Repeat("v", maxValue+1)
	deepLeaf, deepLeafSum := deepProof(leafText(0, "a"), a0)
	deepBare, deepBareSum := deepProof("\x03", z)
	deepOther, deepOtherSum := deepProof(leafText(1, "a"), wantedLeaf(Entry{1, "a"}))
	deeper, deeperSum := deepProof("\x05\x00\x03", bareBranch)
	lowest := strings.Repeat("\x05", 16) + "\x03\x02" + sumText(z) + sumText(z) + strings.Repeat("\x00", 15)
	lowestSum := wantedPair(z, bareBranch)
	for range 15 {
		lowestSum = wantedPair(lowestSum, z)
	}
	for _, x := range []struct {
		name  string
		root  Sum
		proof string
		key   int
		value string
		want  bool
	}{
		{"no key", z, "\x03", 0, "", true},
		{"a leaf", a0, leafText(0, "a"), 0, "a", true},
		{"another key's leaf", a9, leafText(9, "a"), 0, "", true},
		{"a branch above no key", bareBranch, "\x05\x03\x00", 0, "", true},
		{"a branch above no key, asked above", bareBranch, "\x05\x00\x03", maxKey, "", true},
		{"a branch above one leaf", wantedPair(a0, z), "\x05" + leafText(0, "a") + "\x00", 0, "a", true},
		{"branches above no key, down to one key", deepBareSum, deepBare, 0, "", true},
		{"branches above one leaf, down to its key", deepLeafSum, deepLeaf, 0, "a", true},
		{"a pair aside of Z and Z", wantedPair(z, bareBranch), "\x05\x03\x02" + sumText(z) + sumText(z), 0, "", true},
		{"an aside leaf", wantedPair(z, wantedLeaf(Entry{40000, "b"})), "\x05\x03" + asideLeafText(40000, "b"), 0, "", true},
		{"an aside leaf at the low end", wantedPair(z, wantedLeaf(Entry{32768, "b"})), "\x05\x03" + asideLeafText(32768, "b"), 0, "", true},
		{"an aside leaf at the high end", wantedPair(z, wantedLeaf(Entry{maxKey, "b"})), "\x05\x03" + asideLeafText(maxKey, "b"), 0, "", true},

		{"nothing", z, "", 0, "", false},
		{"bytes behind the end", z, "\x03\x00", 0, "", false},
		{"more bytes behind the end", a0, leafText(0, "a") + "\x03", 0, "a", false},
		{"a branch broken off", z, "\x05", 0, "", false},
		{"a branch with one node", bareBranch, "\x05\x03", 0, "", false},
		{"a leaf broken off in its key", a0, "\x04\x00", 0, "a", false},
		{"a leaf broken off behind its key", a0, "\x04\x00\x00", 0, "a", false},
		{"a leaf broken off in its value", wantedLeaf(Entry{0, "ab"}), "\x04\x00\x00\x02a", 0, "a", false},
		{"no kind", z, "\x06", 0, "", false},
		{"no kind, the greatest byte", z, "\xff", 0, "", false},
		{"no kind below a branch", bareBranch, "\x05\x03\x06", 0, "", false},
		{"no key, as if aside", z, "\x00", 0, "", false},
		{"a leaf as if aside", a9, asideLeafText(9, "a"), 0, "", false},
		{"a pair as if aside", bareBranch, "\x02" + sumText(z) + sumText(z), 0, "", false},
		{"no key, not as if aside", bareBranch, "\x05\x03\x03", 0, "", false},
		{"a leaf not as if aside", wantedPair(z, wantedLeaf(Entry{40000, "b"})), "\x05\x03" + leafText(40000, "b"), 0, "", false},
		{"a branch not as if aside", wantedPair(z, bareBranch), "\x05\x03\x05\x00\x00", 0, "", false},
		{"a leaf in the wrong half", wantedPair(wantedLeaf(Entry{40000, "a"}), z), "\x05" + leafText(40000, "a") + "\x00", 0, "", false},
		{"a leaf just above its half", wantedPair(wantedLeaf(Entry{32768, "a"}), z), "\x05" + leafText(32768, "a") + "\x00", 0, "", false},
		{"a leaf just below its half", wantedPair(z, wantedLeaf(Entry{32767, "a"})), "\x05\x00" + leafText(32767, "a"), maxKey, "", false},
		{"an aside leaf in the wrong half", wantedPair(z, a9), "\x05\x03" + asideLeafText(9, "a"), 0, "", false},
		{"an aside leaf just below its half", wantedPair(z, wantedLeaf(Entry{32767, "a"})), "\x05\x03" + asideLeafText(32767, "a"), 0, "", false},
		{"another leaf at a range of one key", deepOtherSum, deepOther, 0, "", false},
		{"a branch at a range of one key", deeperSum, deeper, 0, "", false},
		{"a pair aside at a range of one key", lowestSum, lowest, 0, "", false},
		{"an empty value", wantedLeaf(Entry{0, ""}), leafText(0, ""), 0, "", false},
		{"another key's empty value", wantedLeaf(Entry{9, ""}), leafText(9, ""), 0, "", false},
		{"a value too long", wantedLeaf(Entry{0, long}), leafText(0, long), 0, long, false},
		{"another key's value too long", wantedLeaf(Entry{9, long}), leafText(9, long), 0, "", false},
		{"a value of 255 bytes", wantedLeaf(Entry{0, strings.Repeat("v", 255)}), leafText(0, strings.Repeat("v", 255)), 0, strings.Repeat("v", 255), false},
	} {
		expectVerify(t, x.name, x.root, x.proof, []int{x.key}, []string{x.value}, x.want)
	}
}

func TestVerifyWithNoKeys(t *testing.T) {
	var z Sum
	table := []Entry{{5, "a"}, {50000, "b"}}
	expectVerify(t, "two entries", wantedSum(table, 0, maxKey), wantedProof(table, nil, 0, maxKey), nil, nil, true)
	expectVerify(t, "one entry", wantedLeaf(table[0]), asideLeafText(5, "a"), nil, nil, true)
	expectVerify(t, "a pair of no table", wantedPair(z, z), "\x02"+sumText(z)+sumText(z), nil, nil, true)
	expectVerify(t, "an aside leaf broken off", wantedLeaf(table[0]), asideLeafText(5, "a")[:34], nil, nil, false)
	expectVerify(t, "a pair broken off", wantedPair(z, z), "\x02"+sumText(z)+sumText(z)[:31], nil, nil, false)
	for _, proof := range []string{"", "\x03", "\x04\x00\x05\x01a", "\x05\x00\x00", "\x06", "\x00\x00"} {
		expectVerify(t, "no proof of no keys", z, proof, nil, nil, false)
		expectVerify(t, "no proof of no keys", wantedPair(z, z), proof, nil, nil, false)
		expectVerify(t, "no proof of no keys", wantedLeaf(table[0]), proof, nil, nil, false)
	}
}

func TestVerifyTellsEveryOtherTextApart(t *testing.T) {
	table := []Entry{{0, "a"}, {3, "bc"}, {30000, "d"}, {40000, strings.Repeat("e", maxValue)}, {60000, "f"}, {60001, "g"}}
	root := wantedSum(table, 0, maxKey)
	keys := []int{0, 2, 40000, 60001}
	values := valuesIn(table, keys)
	proof := expectProof(t, table, keys, wantedProof(table, keys, 0, maxKey))
	for i := range proof {
		expectVerify(t, "a proof that breaks off", root, proof[:i], keys, values, false)
		expectVerify(t, "a proof that lacks a byte", root, proof[:i]+proof[i+1:], keys, values, false)
		for turned := 1; turned < 256; turned++ {
			other := []byte(proof)
			other[i] ^= byte(turned)
			if Verify(root, string(other), keys, values) {
				t.Errorf("P4: a proof whose byte %d is turned by %x", i, turned)
			}
		}
	}
	for last := range 256 {
		expectVerify(t, "a byte behind", root, proof+string([]byte{byte(last)}), keys, values, false)
	}
	expectVerify(t, "a proof twice", root, proof+proof, keys, values, false)
	expectVerify(t, "a long text behind", root, proof+strings.Repeat("\x00", 1<<20), keys, values, false)
}

func TestVerifyDrawnProofs(t *testing.T) {
	source := rand.New(rand.NewSource(4))
	broken := 0
	for i := range 6000 {
		highest := []int{maxKeys, 300, maxKey}[i%3]
		d := draw(source, randomKeys(source, source.Intn(maxKeys+1), highest), true)
		expectVerify(t, "a drawn proof", d.sum, d.text, d.keys, d.values(), !d.broken)
		if d.broken {
			broken++
		}
	}
	if broken < 1000 || broken > 5000 {
		t.Errorf("%d of 6000 drawings are broken: too many or too few to tell much", broken)
	}
	for range 200 {
		d := draw(source, randomKeys(source, source.Intn(maxKeys+1), maxKey), false)
		expectVerifyJustTheseValues(t, d.sum, d.text, d.keys, d.values())
	}
}
