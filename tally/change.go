package tally

import (
	"cmp"
	"maps"
	"slices"
)

// changed is the entries whose values a tree tells, with changes made in them: in order, as a map has none.
func changed(tree node, changes []Entry) []Entry {
	table := map[int]Entry{}
	tree.eachEntry(func(entry Entry) {
		table[entry.Key] = entry
	})
	for _, change := range changes {
		if change.Value == "" {
			delete(table, change.Key)
		} else {
			table[change.Key] = change
		}
	}
	return slices.SortedFunc(maps.Values(table), byKey)
}

func byKey(a, b Entry) int {
	return cmp.Compare(a.Key, b.Key)
}

// regrow makes a tree anew from the entries that its range has behind a change of these keys. Where none of the keys is, its nodes stay what they are: there they may stand aside. Where the change leaves a branch as it was, that branch itself stays, so that the versions of a book share it.
func regrow(n node, within span, keys keySet, entries []Entry) node {
	if keys.isEmpty() {
		return n
	}
	switch n := n.(type) {
	case *branch:
		lower, upper := within.halves()
		lowerKeys, upperKeys := keys.cut(upper.low)
		cut := countBelow(entries, upper.low)
		left := regrow(n.left, lower, lowerKeys, entries[:cut])
		right := regrow(n.right, upper, upperKeys, entries[cut:])
		return join(n, left, right)
	}
	return plant(entries, within)
}

// join makes the node above two that stand where those below old stood: no branch, if they have just one key or none, as then the one leaf that is left, aside or not, or nothing, stands for both. That comes ahead of keeping old: a proof may tell a branch where the rule has none.
func join(old *branch, left, right node) node {
	if left.keyCount() == 0 && right.keyCount() <= 1 {
		return right
	}
	if right.keyCount() == 0 && left.keyCount() == 1 {
		return left
	}
	if left == old.left && right == old.right {
		return old
	}
	return newBranch(left, right)
}
