// Package turn turns a text by the order of its ends, and turns it back.
package turn

import "concord/ends"

// Forth gives the text turned, and its row.
func Forth(text string) (string, int) {
	turned := make([]byte, 0, len(text))
	whole := 0
	for row, place := range ends.Sorted(text) {
		if place == 0 {
			whole = row
			continue
		}
		turned = append(turned, text[place-1])
	}
	return string(turned), whole
}

// Back gives the text that is turned b, with this row; false, if there is none.
//
// It goes from the empty end to ever longer ones. No two bytes lead to one row and none
// to row 0, so the rows met differ: if the whole text's is not met too soon, it is met last.
func Back(b string, row int) (string, bool) {
	if row < 0 || row > len(b) {
		return "", false
	}
	longer := leads(b)
	text := make([]byte, len(b))
	at := 0
	for i := len(b) - 1; i >= 0; i-- {
		if at == row {
			return "", false
		}
		k := at
		if at > row {
			// The row of the whole text has no byte in b.
			k--
		}
		text[i] = b[k]
		at = longer[k]
	}
	return string(text), true
}

// leads tells, for each byte of a turned text, the row of the end that begins with it.
// Ends with one first byte stand as the ends behind that byte do, so like bytes keep their order.
func leads(b string) []int {
	next := Starts(b)
	rows := make([]int, len(b))
	for k := range rows {
		rows[k] = next[b[k]]
		next[b[k]]++
	}
	return rows
}

// Starts tells, by a turned text, for each byte the row from which on the ends stand that begin with it.
func Starts(b string) [256]int {
	var counts, starts [256]int
	for k := range len(b) {
		counts[b[k]]++
	}
	row := 1 // row 0 is the empty end's
	for c, n := range counts {
		starts[c] = row
		row += n
	}
	return starts
}
