// Package tally: a table whose content can be proved by one short sum: see DOC.md.
package tally

// Errno is what a call answers: OK or the reason for a refusal.
type Errno int

const (
	OK         Errno = 0
	ErrKey     Errno = 1 // no key
	ErrOrder   Errno = 2 // keys that do not rise
	ErrValue   Errno = 3 // no value
	ErrMany    Errno = 4 // too many
	ErrVersion Errno = 5 // no version
	ErrProof   Errno = 6 // no proof of it
)

// Sum is SHA-256 of something.
type Sum [32]byte

// Entry is a key and its value.
type Entry struct {
	Key   int
	Value string
}

// Root is a table's sum (P2).
func Root(table []Entry) (Sum, Errno) {
	if e := checkTable(table); e != OK {
		return Sum{}, e
	}
	return sumOf(plant(table, allKeys())), OK
}

// Prove proves what a table has at some keys (P3).
func Prove(table []Entry, keys []int) (string, Errno) {
	if e := checkTable(table); e != OK {
		return "", e
	}
	return proveTree(plant(table, allKeys()), keys)
}

// proveTree is what Prove of a table and of a book's version have in common.
func proveTree(tree node, keys []int) (string, Errno) {
	if e := checkProofKeys(keys); e != OK {
		return "", e
	}
	return string(tellNode(nil, tree, allKeys(), setOf(keys))), OK
}

// Verify tells whether a proof shows some values (P4).
func Verify(root Sum, proof string, keys []int, values []string) bool {
	if checkProofKeys(keys) != OK || len(values) != len(keys) {
		return false
	}
	tree, ok := provenTree(root, proof, keys)
	return ok && tellsValues(tree, keys, values)
}

// provenTree is the tree that a proof of these keys tells, if root comes from it.
func provenTree(root Sum, proof string, keys []int) (node, bool) {
	tree, ok := readProof(proof, keys)
	return tree, ok && sumOf(tree) == root
}

func tellsValues(tree node, keys []int, values []string) bool {
	for i, key := range keys {
		if valueAt(tree, allKeys(), key) != values[i] {
			return false
		}
	}
	return true
}

// Update reckons the sum behind changes (P5).
func Update(root Sum, proof string, changes []Entry) (Sum, Errno) {
	if e := checkChanges(changes, maxKeys); e != OK {
		return Sum{}, e
	}
	keys := keysOf(changes)
	tree, ok := provenTree(root, proof, keys)
	if !ok {
		return Sum{}, ErrProof
	}
	return sumOf(regrow(tree, allKeys(), setOf(keys), changed(tree, changes))), OK
}
