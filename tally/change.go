package tally

import (
	"cmp"
	"maps"
	"slices"
)

// changed makes changes in entries; both are in order, and so is what it answers, in memory of its own.
func changed(entries, changes []Entry) []Entry {
	table := map[int]Entry{}
	for _, entry := range entries {
		table[entry.Key] = entry
	}
	for _, change := range changes {
		if change.Value == "" {
			delete(table, change.Key)
		} else {
			table[change.Key] = change
		}
	}
	return slices.SortedFunc(maps.Values(table), byKey)
}

func byKey(a, b Entry) int {
	return cmp.Compare(a.Key, b.Key)
}

// toldEntries adds the entries whose values a tree tells, in order: what stands aside has none to tell.
func toldEntries(entries []Entry, n node) []Entry {
	switch n := n.(type) {
	case leaf:
		return append(entries, Entry{Key: n.key, Value: n.value})
	case *branch:
		return toldEntries(toldEntries(entries, n.left), n.right)
	}
	return entries
}

// regrow makes a tree anew from the entries that its range has behind a change of these keys. Where none of the keys is, its nodes stay what they are: there they may stand aside.
func regrow(n node, within span, keys keySet, entries []Entry) node {
	if keys.isEmpty() {
		return n
	}
	switch n := n.(type) {
	case *branch:
		lower, upper := within.halves()
		lowerKeys, upperKeys := keys.cut(upper.low)
		cut := countBelow(entries, upper.low)
		left := regrow(n.left, lower, lowerKeys, entries[:cut])
		right := regrow(n.right, upper, upperKeys, entries[cut:])
		return join(left, right)
	}
	return plant(entries, within)
}

// join makes the node above two: no branch, if they have just one key or none, as then the one leaf that is left, aside or not, or nothing, stands for both.
func join(left, right node) node {
	if left.keyCount() == 0 && right.keyCount() <= 1 {
		return right
	}
	if right.keyCount() == 0 && left.keyCount() == 1 {
		return left
	}
	return newBranch(left, right)
}
