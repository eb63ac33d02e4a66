package tally

import (
	"fmt"
	"math/rand"
	"testing"
)

func branchesIn(branches map[*branch]bool, n node) {
	if b, ok := n.(*branch); ok {
		branches[b] = true
		branchesIn(branches, b.left)
		branchesIn(branches, b.right)
	}
}

// expectShared tells of branches that two versions of one range have twice, though no change was made in it.
func expectShared(t *testing.T, before, behind node, within span, changes []Entry) {
	t.Helper()
	if len(between(changes, within.low, within.low+within.size-1)) == 0 {
		if before != behind {
			t.Errorf("Ways: the %d keys from %d on did not change, but their nodes did", within.size, within.low)
		}
		return
	}
	old, isOld := before.(*branch)
	next, isNext := behind.(*branch)
	if isOld && isNext {
		lower, upper := within.halves()
		expectShared(t, old.left, next.left, lower, changes)
		expectShared(t, old.right, next.right, upper, changes)
	}
}

func TestVersionsShareWhatDidNotChange(t *testing.T) {
	source := rand.New(rand.NewSource(13))
	book := New()
	table := evenTable(0, 327, maxEntries/2)
	set(t, book, 1, table...)
	for version := 2; version <= 40; version++ {
		changes := drawChanges(source, keysNear(source, table, source.Intn(6)), 1)
		set(t, book, version, changes...)
		expectShared(t, book.trees[version-1], book.trees[version], allKeys(), changes)
		table = tableBehind(table, changes)
	}
}

// One key is below 16 branches at most: a book of 100 versions that change one key each has no more than these of its own for each.
func TestVersionsOfOneChangeAreSmall(t *testing.T) {
	book := New()
	set(t, book, 1, evenTable(0, 327, maxEntries)...)
	branches := map[*branch]bool{}
	branchesIn(branches, book.trees[1])
	for version := 2; version <= maxVersions; version++ {
		count := len(branches)
		set(t, book, version, Entry{327 * version, fmt.Sprint("next ", version)})
		branchesIn(branches, book.trees[version])
		if own := len(branches) - count; own == 0 || own > 16 {
			t.Errorf("Ways: version %d has %d branches of its own", version, own)
		}
	}
}

// What is set to the value that it has, or taken out where it is not, did not change.
func TestVersionsOfNoChangeShareTheTree(t *testing.T) {
	table := evenTable(0, 300, maxEntries)
	book := New()
	set(t, book, 1, table...)
	for i, changes := range [][]Entry{nil, table[:1], table, {{1, ""}}, {{1, ""}, {maxKey, ""}}, {table[3], {901, ""}, table[4]}} {
		set(t, book, 2+i, changes...)
		if book.trees[2+i] != book.trees[1] {
			t.Errorf("Ways: %s change nothing, but the tree is another one", brief(changes))
		}
	}
}

// Asking would write the sums that Set had left out, and could not be done at the same time.
func TestVersionsHaveTheirSums(t *testing.T) {
	book := New()
	set(t, book, 1, evenTable(0, 300, maxEntries)...)
	set(t, book, 2, Entry{300, ""}, Entry{301, "n"})
	branches := map[*branch]bool{}
	branchesIn(branches, book.trees[1])
	branchesIn(branches, book.trees[2])
	for b := range branches {
		if b.kept == (Sum{}) {
			t.Errorf("a branch of %d keys has no sum behind Set", b.count)
		}
	}
}
