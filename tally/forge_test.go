package tally

import (
	"math/rand"
	"slices"
	"testing"
)

// forged is a node of a proof that is a table's, but for some nodes.
type forged struct {
	aside       bool
	keyCount    int // 2 for more
	key         int
	value       string
	sums        [2]Sum // of an aside node's two
	left, right *forged
}

// forge makes the node of a range: mostly the table's own, else any other that a proof may have there.
func forge(source *rand.Rand, table []Entry, keys []int, first, last int) *forged {
	inside := between(table, first, last)
	f := &forged{aside: len(keysBetween(keys, first, last)) == 0, keyCount: min(len(inside), 2)}
	isOther := source.Intn(12) == 0
	if isOther {
		f.keyCount = source.Intn(min(3, 1+last-first+1))
	}
	middle := (first + last) / 2
	switch {
	case f.keyCount == 1 && len(inside) > 0 && (!isOther || source.Intn(2) == 0):
		f.key, f.value = inside[0].Key, inside[0].Value
		if isOther {
			f.value = otherValue(source, f.value)
		}
	case f.keyCount == 1:
		f.key, f.value = first+source.Intn(last-first+1), "new"
	case f.keyCount == 2 && f.aside:
		f.sums = [2]Sum{wantedSum(table, first, middle), wantedSum(table, middle+1, last)}
		if isOther {
			source.Read(f.sums[source.Intn(2)][:])
		}
	case f.keyCount == 2:
		f.left, f.right = forge(source, table, keys, first, middle), forge(source, table, keys, middle+1, last)
	}
	return f
}

func otherValue(source *rand.Rand, value string) string {
	if len(value) > 1 && source.Intn(2) == 0 {
		return value[1:]
	}
	return string([]byte{value[0] + 1}) + value[1:]
}

// text is what stands for the node in the proof.
func (f *forged) text() string {
	switch {
	case f.aside && f.keyCount == 0:
		return "\x00"
	case f.aside && f.keyCount == 1:
		return asideLeafText(f.key, f.value)
	case f.aside:
		return "\x02" + sumText(f.sums[0]) + sumText(f.sums[1])
	case f.keyCount == 0:
		return "\x03"
	case f.keyCount == 1:
		return leafText(f.key, f.value)
	}
	return "\x05" + f.left.text() + f.right.text()
}

// summedText is the text whose H is the node's sum, or nothing, if that is Z.
func (f *forged) summedText() string {
	switch {
	case f.keyCount == 0:
		return ""
	case f.keyCount == 1:
		return "\x00" + keyText(f.key) + sumText(joinedSum([]byte(f.value)))
	case f.aside:
		return "\x01" + sumText(f.sums[0]) + sumText(f.sums[1])
	}
	return "\x01" + sumText(f.left.sum()) + sumText(f.right.sum())
}

func (f *forged) sum() Sum { return sumOfText(f.summedText()) }

func sumOfText(text string) Sum {
	if text == "" {
		return Sum{}
	}
	return joinedSum([]byte(text))
}

func (f *forged) valueAt(key, first, last int) string {
	middle := (first + last) / 2
	switch {
	case f.keyCount == 1 && f.key == key:
		return f.value
	case f.keyCount == 2 && key <= middle:
		return f.left.valueAt(key, first, middle)
	case f.keyCount == 2:
		return f.right.valueAt(key, middle+1, last)
	}
	return ""
}

func summedTextOfTable(table []Entry, first, last int) string {
	inside, middle := between(table, first, last), (first+last)/2
	switch len(inside) {
	case 0:
		return ""
	case 1:
		return "\x00" + keyText(inside[0].Key) + sumText(joinedSum([]byte(inside[0].Value)))
	}
	return "\x01" + sumText(wantedSum(table, first, middle)) + sumText(wantedSum(table, middle+1, last))
}

// twoTexts walks down both trees to a node that they sum from different texts: had these one sum, H would be broken there. Nodes above it are of one text, so that its sum stands in both.
func twoTexts(table []Entry, f *forged, first, last int) (ofTable, ofProof string, found bool) {
	ofTable, ofProof = summedTextOfTable(table, first, last), f.summedText()
	if ofTable != ofProof {
		return ofTable, ofProof, true
	}
	if f.keyCount == 1 && !f.aside {
		value := between(table, first, last)[0].Value
		return value, f.value, value != f.value
	}
	if f.keyCount == 2 && !f.aside {
		middle := (first + last) / 2
		if ofTable, ofProof, found = twoTexts(table, f.left, first, middle); found {
			return ofTable, ofProof, true
		}
		return twoTexts(table, f.right, middle+1, last)
	}
	return "", "", false
}

func TestForgedProofs(t *testing.T) {
	source := rand.New(rand.NewSource(8))
	lying, honest := 0, 0
	for i := range 4000 {
		table := randomTable(source, source.Intn(12), []int{20, 300, maxKey}[i%3])
		keys := keysNear(source, table, 1+source.Intn(6))
		f := forge(source, table, keys, 0, maxKey)
		told := make([]string, len(keys))
		for j, key := range keys {
			told[j] = f.valueAt(key, 0, maxKey)
		}
		root, text := wantedSum(table, 0, maxKey), f.text()
		expectVerify(t, "a forged proof at its own sum", f.sum(), text, keys, told, true)
		if slices.Equal(told, valuesIn(table, keys)) {
			honest++
			expectVerify(t, "a proof that tells the table's values", root, text, keys, told, f.sum() == root)
			continue
		}
		lying++
		ofTable, ofProof, found := twoTexts(table, f, 0, maxKey)
		if !found {
			t.Errorf("P7: no node of two texts, in the table %v and the proof %x of %v, which tells %q", table, text, keys, told)
		}
		if sumOfText(ofTable) == sumOfText(ofProof) {
			t.Errorf("P7: %x and %x have one sum", ofTable, ofProof)
		}
		if Verify(root, text, keys, told) {
			t.Errorf("P7: the proof %x of %v tells %q, and is verified at the sum of %v", text, keys, told, table)
		}
	}
	if lying < 500 || honest < 500 {
		t.Errorf("%d forged proofs lie and %d do not: too few to tell much", lying, honest)
	}
}

// Whatever a table has, its own proof shows none but its own values, at none but its own sum.
func TestProofsOfOtherTables(t *testing.T) {
	tables := [][]Entry{
		nil, {{0, "a"}}, {{0, "b"}}, {{0, "aa"}}, {{1, "a"}}, {{0, "a"}, {1, "a"}}, {{0, "a"}, {1, "b"}}, {{0, "b"}, {1, "a"}},
		{{0, "a"}, {2, "a"}}, {{0, "a"}, {40000, "a"}}, {{1, "a"}, {40000, "a"}}, {{0, "a"}, {1, "a"}, {40000, "a"}}, {{40000, "a"}},
	}
	for _, keys := range [][]int{{0}, {1}, {0, 1}, {0, 1, 2, 40000}, {3}, {40000}} {
		for _, table := range tables {
			root := wantedSum(table, 0, maxKey)
			for _, other := range tables {
				proof, values := wantedProof(other, keys, 0, maxKey), valuesIn(other, keys)
				isOwn := slices.Equal(table, other)
				expectVerify(t, "the proof of a table", root, proof, keys, values, isOwn)
				if !slices.Equal(values, valuesIn(table, keys)) && Verify(root, proof, keys, values) {
					t.Errorf("P7: the proof of %v at %v is verified at the sum of %v", other, keys, table)
				}
			}
		}
	}
}
