package tally

import "strings"

// Book is tables by versions. Make it by New.
type Book struct {
	trees []node // by the numbers of the versions; they have the nodes in common that no Set between them changed
}

// New makes a book (P6).
func New() *Book {
	return &Book{trees: []node{bare{}}}
}

// Set makes the next version (P6).
func (b *Book) Set(changes ...Entry) (int, Errno) {
	next := len(b.trees)
	if next > maxVersions {
		return 0, ErrMany
	}
	if e := checkChanges(changes, maxEntries); e != OK {
		return 0, e
	}
	last := b.trees[next-1]
	entries := changed(last, copied(changes))
	if len(entries) > maxEntries {
		return 0, ErrMany
	}
	b.trees = append(b.trees, summed(regrow(last, allKeys(), setOf(keysOf(changes)), entries)))
	return next, OK
}

// copied has values in memory of its own: the book keeps them, and a value may be a piece of a long text that it must not keep.
func copied(changes []Entry) []Entry {
	own := make([]Entry, len(changes))
	for i, change := range changes {
		own[i] = Entry{Key: change.Key, Value: strings.Clone(change.Value)}
	}
	return own
}

// summed has the branches of a tree keep their sums at once, so that Get, Root and Prove of a book write nothing and may be called at the same time.
func summed(tree node) node {
	sumOf(tree)
	return tree
}

// Get tells a value (P6).
func (b *Book) Get(version int, key int) (string, Errno) {
	tree, e := b.treeOf(version)
	if e != OK {
		return "", e
	}
	if !isKey(key) {
		return "", ErrKey
	}
	return valueAt(tree, allKeys(), key), OK
}

// Root tells a version's sum (P6).
func (b *Book) Root(version int) (Sum, Errno) {
	tree, e := b.treeOf(version)
	if e != OK {
		return Sum{}, e
	}
	return sumOf(tree), OK
}

// Prove proves what a version has (P6).
func (b *Book) Prove(version int, keys ...int) (string, Errno) {
	tree, e := b.treeOf(version)
	if e != OK {
		return "", e
	}
	return proveTree(tree, keys)
}

func (b *Book) treeOf(version int) (node, Errno) {
	if version < 0 || version >= len(b.trees) {
		return nil, ErrVersion
	}
	return b.trees[version], OK
}
