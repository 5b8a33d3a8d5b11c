// Package index tells how often words are in a text, and where, and gives pieces of it, from the turned text alone.
package index

import (
	"slices"

	"concord/bitlist"
	"concord/rows"
)

// Index is a text, kept turned.
type Index struct {
	rate   int
	rows   rows.Rows
	marked bitlist.List // which rows are those of ends from known places, which are the multiples of the rate
	known  []int        // these places, in the order of the rows
}

// Of makes an index of a text, by what it is turned, and its row. The rate is 1 or more.
func Of(turned string, row int, rate int) *Index {
	x := &Index{rate: rate, rows: rows.Of(turned, row)}
	for _, place := range x.places() {
		bit := uint64(0)
		if place%rate == 0 {
			bit = 1
			x.known = append(x.known, place)
		}
		x.marked.Lay(bitlist.Run{Size: 1, Bits: bit})
	}
	return x
}

// Parts gives what the text is turned, its row and the rate: all that the index was made of.
func (x *Index) Parts() (string, int, int) {
	turned, row := x.rows.Turned()
	return turned, row, x.rate
}

// places tells from where on the end of each row is, going from the empty end to ever longer ones.
func (x *Index) places() []int {
	places := make([]int, x.Len()+1)
	row := 0
	for place := x.Len(); place > 0; place-- {
		places[row] = place
		_, row = x.rows.Ahead(row)
	}
	return places
}

// Len tells how long the text is.
func (x *Index) Len() int { return x.rows.Len() }

// Count tells at how many places a word begins.
func (x *Index) Count(word string) int {
	count := 0
	for _, r := range x.find(word) {
		count += r.To - r.From
	}
	return count
}

// Locate tells these places, rising.
//
// Of any rate places one behind the other just one is known, and the text's first one is:
// so whoever goes back from a place by fewer than rate bytes meets one known place, and no more.
func (x *Index) Locate(word string) []int {
	ranges := x.find(word)
	places := x.knownIn(0, ranges...)
	for back := 1; back < x.rate && len(ranges) > 0; back++ {
		ranges = x.rows.Longer(ranges...)
		places = append(places, x.knownIn(back, ranges...)...)
	}
	slices.Sort(places)
	return places
}

// find gives the rows of the ends that begin with a word.
func (x *Index) find(word string) []bitlist.Range {
	ranges := []bitlist.Range{x.rows.All()}
	for i := len(word) - 1; i >= 0 && len(ranges) > 0; i-- {
		ranges = x.rows.LongerBy(word[i], ranges...)
	}
	return ranges
}

// knownIn gives the known places of rows in ranges, one or many, each moved on as far as was gone back.
func (x *Index) knownIn(back int, ranges ...bitlist.Range) []int {
	var places []int
	for _, r := range x.marked.Among(1, ranges...) {
		for _, place := range x.known[r.From:r.To] {
			places = append(places, place+back)
		}
	}
	return places
}

// Extract gives the text from a place up to another; from is 0 or more, to at most Len(), from at most to.
func (x *Index) Extract(from, to int) string {
	piece := make([]byte, to-from)
	place, row := x.near(to)
	for place > from {
		var c byte
		c, row = x.rows.Ahead(row)
		place--
		if place < to {
			piece[place-from] = c
		}
	}
	return string(piece)
}

// near gives the first place from a place on of which the row can be told, and the row.
func (x *Index) near(place int) (int, int) {
	next := (place + x.rate - 1) / x.rate * x.rate
	if next > x.Len() {
		return x.Len(), 0 // the empty end's
	}
	return next, x.marked.Select(slices.Index(x.known, next))
}
