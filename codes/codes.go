// Package codes makes the codes of the bytes of a text: the more frequent a byte, the fewer its bits.
package codes

import (
	"cmp"
	"slices"

	"concord/bitlist"
)

// tree is bytes that have been put together. A byte alone has no sides.
type tree struct {
	weight int
	least  byte // the least byte in it
	sides  [2]*tree
}

// Count tells how often each byte is in a text.
func Count(text string) [256]int {
	var counts [256]int
	for i := range len(text) {
		counts[text[i]]++
	}
	return counts
}

// Of gives the code of each byte, by how often each is there; that of a byte that is not there is empty.
//
// A code has to fit a run. It does: for a code of more than 64 bits the weights would have
// to grow as the Fibonacci numbers do, to more than 1<<45 together.
func Of(counts [256]int) [256]bitlist.Run {
	var made [256]bitlist.Run
	trees := alone(counts)
	switch len(trees) {
	case 0:
	case 1:
		made[trees[0].least] = bitlist.Run{}.With(0)
	default:
		spell(join(trees), bitlist.Run{}, &made)
	}
	return made
}

// Bytes gives each byte that has a code, by its code.
func Bytes(made [256]bitlist.Run) map[bitlist.Run]byte {
	bytes := map[bitlist.Run]byte{}
	for c, code := range made {
		if code.Size > 0 {
			bytes[code] = byte(c)
		}
	}
	return bytes
}

// alone makes a tree of each byte that is there.
func alone(counts [256]int) []*tree {
	var trees []*tree
	for c, n := range counts {
		if n > 0 {
			trees = append(trees, &tree{weight: n, least: byte(c)})
		}
	}
	return trees
}

// order says which of two trees goes first. No two have one least byte, so no two are alike.
func order(a, b *tree) int {
	return cmp.Or(cmp.Compare(a.weight, b.weight), cmp.Compare(a.least, b.least))
}

// join puts trees together, always the two that go first, until one is left.
func join(trees []*tree) *tree {
	slices.SortFunc(trees, order)
	for len(trees) > 1 {
		a, b := trees[0], trees[1]
		both := &tree{a.weight + b.weight, min(a.least, b.least), [2]*tree{a, b}}
		trees = trees[2:]
		at, _ := slices.BinarySearchFunc(trees, both, order)
		trees = slices.Insert(trees, at, both)
	}
	return trees[0]
}

// spell notes the code of each byte of a tree to which the sides in way lead.
func spell(t *tree, way bitlist.Run, made *[256]bitlist.Run) {
	if t.sides[0] == nil {
		made[t.least] = way
		return
	}
	for side, part := range t.sides {
		spell(part, way.With(uint64(side)), made)
	}
}
