package tally

// kind is the first byte of what stands for a node in a proof.
type kind byte

const (
	kindAsideBare kind = iota
	kindAsideLeaf
	kindAsidePair
	kindBare
	kindLeaf
	kindBranch
)

// tellNode adds what stands for a node of a table's tree to a proof; the keys are those of the proof that are in its range.
func tellNode(proof []byte, n node, within span, keys keySet) []byte {
	if keys.isEmpty() {
		return tellAside(proof, n)
	}
	switch n := n.(type) {
	case leaf:
		proof = append(tellKey(proof, kindLeaf, n.key), byte(len(n.value)))
		return append(proof, n.value...)
	case *branch:
		lower, upper := within.halves()
		lowerKeys, upperKeys := keys.cut(upper.low)
		proof = tellNode(append(proof, byte(kindBranch)), n.left, lower, lowerKeys)
		return tellNode(proof, n.right, upper, upperKeys)
	}
	return append(proof, byte(kindBare))
}

func tellAside(proof []byte, n node) []byte {
	switch n := n.(type) {
	case leaf:
		value := Hash(n.value)
		return append(tellKey(proof, kindAsideLeaf, n.key), value[:]...)
	case *branch:
		left, right := sumHalves(n)
		proof = append(append(proof, byte(kindAsidePair)), left[:]...)
		return append(proof, right[:]...)
	}
	return append(proof, byte(kindAsideBare))
}

func tellKey(proof []byte, k kind, key int) []byte {
	return append(proof, byte(k), byte(key>>8), byte(key))
}
