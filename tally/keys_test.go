package tally

import (
	"slices"
	"testing"
)

func keysIn(s keySet) []int {
	if s.isEmpty() {
		return nil
	}
	return s.list[s.from:s.end]
}

// The cuts lie within the set, at its keys, and outside it, where one part is all of it.
func TestCutOfKeys(t *testing.T) {
	list := []int{0, 3, 4, 9, maxKey}
	for from := range len(list) + 1 {
		for end := from; end <= len(list); end++ {
			for _, at := range []int{0, 1, 3, 4, 5, 9, 10, 32768, maxKey, maxKey + 1} {
				set := keySet{list, from, end}
				below, others := set.cut(at)
				wantBelow, wantOthers := keysBetween(list[from:end], 0, at-1), keysBetween(list[from:end], at, maxKey)
				if !slices.Equal(keysIn(below), wantBelow) || !slices.Equal(keysIn(others), wantOthers) {
					t.Errorf("%v cut at %d is %v and %v, want %v and %v", list[from:end], at, keysIn(below), keysIn(others), wantBelow, wantOthers)
				}
				low, lower := below.cut(2)
				if got, want := slices.Concat(keysIn(low), keysIn(lower)), wantBelow; !slices.Equal(got, want) {
					t.Errorf("%v cut again has %v", want, got)
				}
			}
		}
	}
}

func TestSetOfKeys(t *testing.T) {
	for _, keys := range [][]int{nil, {0}, {0, 1, maxKey}} {
		if got := keysIn(setOf(keys)); !slices.Equal(got, keys) {
			t.Errorf("the set of %v has %v", keys, got)
		}
	}
}
