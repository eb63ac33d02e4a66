package tally

// noProof is what reading panics with: the readers call each other as deep as the tree goes, and where a text is no proof, all of them end at once.
type noProof struct{}

// proofReader has what is still to be read of a proof.
type proofReader struct {
	rest string
}

// readProof makes the tree that a proof of these keys tells. It is not ok, if the text is no such proof.
func readProof(proof string, keys []int) (root node, ok bool) {
	defer func() {
		if recover() != nil {
			root, ok = nil, false
		}
	}()
	reader := &proofReader{rest: proof}
	root = reader.readNode(allKeys(), setOf(keys))
	if reader.rest != "" {
		panic(noProof{})
	}
	return root, true
}

// readNode leaves a branch as it is told, whatever is below it: a proof may tell what no table has, and its sum comes of that.
func (r *proofReader) readNode(within span, keys keySet) node {
	k := r.readKind()
	if keys.isEmpty() {
		return r.readAside(k, within)
	}
	switch k {
	case kindBare:
		return bare{}
	case kindLeaf:
		key := r.readKey(within)
		return leaf{key: key, value: r.readValue()}
	case kindBranch:
		mustHaveHalves(within)
		lower, upper := within.halves()
		lowerKeys, upperKeys := keys.cut(upper.low)
		left := r.readNode(lower, lowerKeys)
		right := r.readNode(upper, upperKeys)
		return newBranch(left, right)
	}
	panic(noProof{})
}

func (r *proofReader) readAside(k kind, within span) node {
	switch k {
	case kindAsideBare:
		return bare{}
	case kindAsideLeaf:
		key := r.readKey(within)
		return asideLeaf{key: key, value: r.readSum()}
	case kindAsidePair:
		mustHaveHalves(within)
		left := r.readSum()
		return asidePair{left: left, right: r.readSum()}
	}
	panic(noProof{})
}

// mustHaveHalves refuses nodes below a range of one key. So the reading of any text ends.
func mustHaveHalves(within span) {
	if within.size == 1 {
		panic(noProof{})
	}
}

func (r *proofReader) readKind() kind {
	return kind(r.take(1)[0])
}

func (r *proofReader) readKey(within span) int {
	text := r.take(2)
	key := int(text[0])<<8 | int(text[1])
	if !within.has(key) {
		panic(noProof{})
	}
	return key
}

func (r *proofReader) readValue() string {
	length := int(r.take(1)[0])
	if length == 0 || length > maxValue {
		panic(noProof{})
	}
	return r.take(length)
}

func (r *proofReader) readSum() Sum {
	var sum Sum
	copy(sum[:], r.take(len(sum)))
	return sum
}

func (r *proofReader) take(count int) string {
	if len(r.rest) < count {
		panic(noProof{})
	}
	text := r.rest[:count]
	r.rest = r.rest[count:]
	return text
}
