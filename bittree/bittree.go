// Package bittree keeps bytes in a tree of bits that is shaped by their codes, so that frequent bytes lie near the root.
package bittree

import (
	"concord/bitlist"
	"concord/codes"
)

// node is where codes part: of each byte whose code leads here, in their order, it has the next bit.
type node struct {
	bits  bitlist.List
	sides [2]*node // nil, where a code ends
}

// Tree is bytes one behind the other.
type Tree struct {
	size  int
	codes [256]bitlist.Run
	bytes map[bitlist.Run]byte // by their codes
	root  *node
}

// Of keeps the bytes of a text.
func Of(text string) Tree {
	made := codes.Of(codes.Count(text))
	t := Tree{size: len(text), codes: made, bytes: codes.Bytes(made)}
	for i := range len(text) {
		t.lay(made[text[i]])
	}
	return t
}

// lay puts a byte, of which it is given the code, behind what the tree has.
func (t *Tree) lay(code bitlist.Run) {
	at := &t.root
	for i := range code.Size {
		if *at == nil {
			*at = &node{}
		}
		bit := code.Bit(i)
		(*at).bits.Lay(bitlist.Run{Size: 1, Bits: bit})
		at = &(*at).sides[bit]
	}
}

// Size tells how many bytes there are.
func (t *Tree) Size() int { return t.size }

// Text gives all of them.
func (t *Tree) Text() string {
	text := make([]byte, t.size)
	for place := range text {
		text[place], _ = t.At(place)
	}
	return string(text)
}

// At gives the byte at a place from 0 to below Size(), and how many like it stand ahead of it.
func (t *Tree) At(place int) (byte, int) {
	var way bitlist.Run
	for n := t.root; n != nil; {
		bit := n.bits.Bit(place)
		place = n.bits.RankOf(bit, place)
		way = way.With(bit)
		n = n.sides[bit]
	}
	return t.bytes[way], place
}

// Among tells which of all bytes like this one (numbered from 0 on) stand in ranges, one or many.
func (t *Tree) Among(c byte, ranges ...bitlist.Range) []bitlist.Range {
	code := t.codes[c]
	if code.Size == 0 {
		return nil
	}
	n := t.root
	for i := range code.Size {
		bit := code.Bit(i)
		ranges = n.bits.Among(bit, ranges...)
		n = n.sides[bit]
	}
	return ranges
}

// Split tells of every byte what Among tells of one.
func (t *Tree) Split(ranges ...bitlist.Range) [256][]bitlist.Range {
	var found [256][]bitlist.Range
	t.split(t.root, bitlist.Run{}, &found, ranges...)
	return found
}

// split notes it for each byte of a node to which the sides in way lead.
// There is no node in a tree without bytes, nor behind side 1 if there is one byte alone.
func (t *Tree) split(n *node, way bitlist.Run, found *[256][]bitlist.Range, ranges ...bitlist.Range) {
	if n == nil || len(ranges) == 0 {
		return
	}
	for side, below := range n.sides {
		bit := uint64(side)
		inside := n.bits.Among(bit, ranges...)
		longer := way.With(bit)
		if c, ok := t.bytes[longer]; ok {
			found[c] = inside
			continue
		}
		t.split(below, longer, found, inside...)
	}
}
