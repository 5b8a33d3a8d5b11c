// Package bitlist keeps noughts and ones, and tells how many ones stand ahead of a place, and where.
package bitlist

import (
	"math/bits"
	"sort"
)

// wordSize is how many bits a word has: a word of a list, and the longest run.
const wordSize = 64

// Run is bits one behind the other: how many, and which ones (a number, whose highest bit comes first).
type Run struct {
	Size int
	Bits uint64
}

// With gives the run with one more bit behind it.
func (r Run) With(bit uint64) Run {
	return Run{r.Size + 1, r.Bits<<1 | bit}
}

// Bit gives the bit at a place.
func (r Run) Bit(place int) uint64 {
	return r.Bits >> (r.Size - 1 - place) & 1
}

// Text writes the run as noughts and ones.
func (r Run) Text() string {
	text := make([]byte, r.Size)
	for i := range text {
		text[i] = '0' + byte(r.Bit(i))
	}
	return string(text)
}

// Read gives the bits that a text of noughts and ones tells; false, if it has any other byte.
func Read(text string) ([]Run, bool) {
	var runs []Run
	var last Run
	for i := range len(text) {
		bit := uint64(0)
		switch text[i] {
		case '1':
			bit = 1
			fallthrough
		case '0':
			last = last.With(bit)
		default:
			return nil, false
		}
		if last.Size == wordSize {
			runs = append(runs, last)
			last = Run{}
		}
	}
	return append(runs, last), true
}

// Range is places one behind the other: from From up to To.
type Range struct{ From, To int }

// List is noughts and ones, any number of them. An empty one is ready for use.
type List struct {
	words      []uint64 // a word's highest bit comes first, and what is free in the last word is nought
	ahead      []int    // how many ones stand ahead of each word: no asking has to count from the front
	size, ones int
}

// Lay puts runs, one or many, behind what the list has.
func (l *List) Lay(runs ...Run) {
	for _, r := range runs {
		for i := range r.Size {
			l.layBit(r.Bit(i))
		}
	}
}

func (l *List) layBit(bit uint64) {
	place := l.size % wordSize
	if place == 0 {
		l.words = append(l.words, 0)
		l.ahead = append(l.ahead, l.ones)
	}
	l.words[len(l.words)-1] |= bit << (wordSize - 1 - place)
	l.size++
	l.ones += int(bit)
}

// Size tells how many bits there are.
func (l *List) Size() int { return l.size }

// Ones tells how many of them are ones.
func (l *List) Ones() int { return l.ones }

// Rank tells how many ones there are ahead of a place from 0 to Size().
func (l *List) Rank(place int) int {
	if place == l.size {
		// There may be no word for this place.
		return l.ones
	}
	word, within := place/wordSize, place%wordSize
	return l.ahead[word] + bits.OnesCount64(l.words[word]>>(wordSize-within))
}

// Bit gives the bit at a place from 0 to below Size().
func (l *List) Bit(place int) uint64 {
	return l.words[place/wordSize] >> (wordSize - 1 - place%wordSize) & 1
}

// Bytes gives all bits, eight a byte, the first one highest, with noughts behind up to a whole byte.
func (l *List) Bytes() []byte {
	bytes := make([]byte, (l.size+7)/8)
	for i := range bytes {
		place := i * 8
		bytes[i] = byte(l.words[place/wordSize] >> (wordSize - 8 - place%wordSize))
	}
	return bytes
}

// RankOf tells how many bits like this one there are ahead of a place from 0 to Size().
func (l *List) RankOf(bit uint64, place int) int {
	if bit == 0 {
		return place - l.Rank(place)
	}
	return l.Rank(place)
}

// Among tells which of all bits like this one (numbered from 0 on) stand in ranges, one or many.
// Ranges with none are left out, and those with none between them become one: so many do not stay many.
func (l *List) Among(bit uint64, ranges ...Range) []Range {
	var found []Range
	for _, r := range ranges {
		from, to := l.RankOf(bit, r.From), l.RankOf(bit, r.To)
		last := len(found) - 1
		switch {
		case from == to:
		case last >= 0 && found[last].To == from:
			found[last].To = to
		default:
			found = append(found, Range{from, to})
		}
	}
	return found
}

// Select tells the place of the k-th one, k from 0 to below Ones().
func (l *List) Select(k int) int {
	word := sort.SearchInts(l.ahead, k+1) - 1
	rest := l.words[word]
	for range k - l.ahead[word] {
		rest &^= 1 << (wordSize - 1 - bits.LeadingZeros64(rest))
	}
	return word*wordSize + bits.LeadingZeros64(rest)
}
