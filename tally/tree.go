package tally

import "sync"

// manyKeys is from how many keys on the halves of a range are summed at the same time: measured with 200 keys, lower bounds made Root slower, as the goroutines then have too little to do each.
const manyKeys = 32

// node is a node of the tree: a bare, a leaf or a *branch, by how many keys the table has in its range; in what a proof tells also an asideLeaf or an asidePair.
type node interface {
	keyCount() int
	// eachEntry hands on the entries whose values are told: what stands aside has none.
	eachEntry(visit func(Entry))
}

type bare struct{}

type leaf struct {
	key   int
	value string
}

// asideLeaf is a leaf of which a proof tells H of the value alone.
type asideLeaf struct {
	key   int
	value Sum
}

// asidePair is a branch of which a proof tells the sums of its two nodes alone.
type asidePair struct {
	left, right Sum
}

// branch keeps its sum once that is reckoned: Z until then. (Were a sum Z itself, it would be reckoned again, to the same end.)
type branch struct {
	left, right node
	count       int
	kept        Sum
}

func (bare) keyCount() int { return 0 }

func (leaf) keyCount() int { return 1 }

func (asideLeaf) keyCount() int { return 1 }

// keyCount of an asidePair is the least that it may be: a proof doesn't tell how many keys it has, only that they are more than one.
func (asidePair) keyCount() int { return 2 }

func (b *branch) keyCount() int { return b.count }

func (bare) eachEntry(func(Entry)) {}

func (l leaf) eachEntry(visit func(Entry)) { visit(Entry{Key: l.key, Value: l.value}) }

func (asideLeaf) eachEntry(func(Entry)) {}

func (asidePair) eachEntry(func(Entry)) {}

func (b *branch) eachEntry(visit func(Entry)) {
	b.left.eachEntry(visit)
	b.right.eachEntry(visit)
}

func newBranch(left, right node) *branch {
	return &branch{left: left, right: right, count: left.keyCount() + right.keyCount()}
}

// span is a range of keys, from low on; its size is a power of two.
type span struct {
	low, size int
}

// allKeys is the root's range.
func allKeys() span {
	return span{low: 0, size: maxKey + 1}
}

func (s span) halves() (span, span) {
	half := s.size / 2
	return span{s.low, half}, span{s.low + half, half}
}

func (s span) has(key int) bool {
	return s.low <= key && key < s.low+s.size
}

// plant makes the tree of a range from its entries, which are in order. It ends, as a range of one key has at most one entry.
func plant(entries []Entry, within span) node {
	switch len(entries) {
	case 0:
		return bare{}
	case 1:
		return leaf{key: entries[0].Key, value: entries[0].Value}
	}
	lower, upper := within.halves()
	cut := countBelow(entries, upper.low)
	return newBranch(plant(entries[:cut], lower), plant(entries[cut:], upper))
}

func countBelow(entries []Entry, key int) int {
	count := 0
	for count < len(entries) && entries[count].Key < key {
		count++
	}
	return count
}

func sumOf(n node) Sum {
	switch n := n.(type) {
	case leaf:
		return leafSum(n.key, Hash(n.value))
	case asideLeaf:
		return leafSum(n.key, n.value)
	case asidePair:
		return pairSum(n.left, n.right)
	case *branch:
		if n.kept == (Sum{}) {
			n.kept = pairSum(sumHalves(n))
		}
		return n.kept
	}
	return Sum{}
}

// sumHalves may hand the halves to two goroutines: they have no node in common, and each has a result of its own to write, so that the sums hang on no schedule.
func sumHalves(b *branch) (Sum, Sum) {
	if b.keyCount() < manyKeys {
		return sumOf(b.left), sumOf(b.right)
	}
	var sums [2]Sum
	var workers sync.WaitGroup
	for i, half := range [2]node{b.left, b.right} {
		workers.Add(1)
		go func() {
			defer workers.Done()
			sums[i] = sumOf(half)
		}()
	}
	workers.Wait()
	return sums[0], sums[1]
}

// leafSum takes H of the value, not the value: a proof may tell a leaf by that alone.
func leafSum(key int, value Sum) Sum {
	return Hash(string([]byte{0, byte(key >> 8), byte(key)}) + string(value[:]))
}

func pairSum(left, right Sum) Sum {
	return Hash("\x01" + string(left[:]) + string(right[:]))
}

// valueAt is what a tree tells of a key: the empty value, if there is none.
func valueAt(n node, within span, key int) string {
	switch n := n.(type) {
	case leaf:
		if n.key == key {
			return n.value
		}
	case *branch:
		lower, upper := within.halves()
		if lower.has(key) {
			return valueAt(n.left, lower, key)
		}
		return valueAt(n.right, upper, key)
	}
	return ""
}
