// Package rows goes from the rows of a turned text to those of longer ends.
package rows

import (
	"concord/bitlist"
	"concord/bittree"
	"concord/turn"
)

// Rows are the rows of a turned text.
type Rows struct {
	turned bittree.Tree
	starts [256]int // for each byte, the row from which on the ends stand that begin with it
	whole  int      // the row of the whole text
}

// Of gives the rows of a text, by what it is turned, and its row.
func Of(turned string, whole int) Rows {
	return Rows{bittree.Of(turned), turn.Starts(turned), whole}
}

// Turned gives what the text is turned, and its row.
func (r *Rows) Turned() (string, int) { return r.turned.Text(), r.whole }

// Len tells how long the text is.
func (r *Rows) Len() int { return r.turned.Size() }

// All is all rows.
func (r *Rows) All() bitlist.Range { return bitlist.Range{From: 0, To: r.Len() + 1} }

// Ahead gives the byte that stands ahead of a row's end, and the row of the end that begins with it.
// There is none for the whole text's row.
func (r *Rows) Ahead(row int) (byte, int) {
	c, number := r.turned.At(r.place(row))
	return c, r.starts[c] + number
}

// LongerBy gives the rows of the ends that are a byte and, behind it, an end in ranges, one or many.
func (r *Rows) LongerBy(c byte, ranges ...bitlist.Range) []bitlist.Range {
	return r.beginning(c, r.turned.Among(c, r.places(ranges...)...)...)
}

// Longer gives the rows of the ends that are any one byte and, behind it, an end in ranges, one or many.
func (r *Rows) Longer(ranges ...bitlist.Range) []bitlist.Range {
	var longer []bitlist.Range
	for c, numbers := range r.turned.Split(r.places(ranges...)...) {
		longer = append(longer, r.beginning(byte(c), numbers...)...)
	}
	return longer
}

// beginning gives the rows of ends that begin with a byte, by their numbers among all these.
func (r *Rows) beginning(c byte, numbers ...bitlist.Range) []bitlist.Range {
	var ranges []bitlist.Range
	for _, n := range numbers {
		ranges = append(ranges, bitlist.Range{From: r.starts[c] + n.From, To: r.starts[c] + n.To})
	}
	return ranges
}

// places gives the places in the turned text of what stands ahead of the ends in ranges.
func (r *Rows) places(ranges ...bitlist.Range) []bitlist.Range {
	var places []bitlist.Range
	for _, s := range ranges {
		places = append(places, bitlist.Range{From: r.place(s.From), To: r.place(s.To)})
	}
	return places
}

// place tells how many bytes the turned text has ahead of a row: one for each row but the whole text's.
func (r *Rows) place(row int) int {
	if row > r.whole {
		return row - 1
	}
	return row
}
