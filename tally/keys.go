package tally

import "slices"

// keySet is some keys of a list that rises: those from one place on and ahead of another. Cutting it moves the two places together; nothing is copied.
type keySet struct {
	list      []int
	from, end int
}

func setOf(keys []int) keySet {
	return keySet{list: keys, from: 0, end: len(keys)}
}

// cut parts a set into its keys below a key and its others. The place is looked for in the whole list, so that it may lie outside the set: min and max leave nothing of one side then.
func (s keySet) cut(at int) (below, others keySet) {
	place, _ := slices.BinarySearch(s.list, at)
	return keySet{s.list, s.from, min(s.end, place)}, keySet{s.list, max(s.from, place), s.end}
}

// isEmpty also holds of the sets that cut leaves with their end ahead of their start.
func (s keySet) isEmpty() bool {
	return s.from >= s.end
}
