// Package ends puts the ends of a text into their order.
package ends

import (
	"cmp"
	"slices"
	"strings"
)

// kind says how an end stands to its neighbours in the text.
type kind int

const (
	falling kind = iota // stands behind the end that begins one place on
	rising              // stands ahead of it
	valley              // rising, and the end that begins one place before is falling
)

// letters is how many letters an end can begin with: the bytes, and the letter of the empty end.
const letters = 257

// shelf is where the ends with one first letter go: the falling ones have the rows
// from front up to middle, the rising ones those from middle up to back.
type shelf struct{ front, middle, back int }

// sorting is a text whose ends are being laid into their rows.
// A row that is still free holds 0: place 0 has none before it, so neither leads anywhere.
type sorting struct {
	text    string
	kinds   []kind
	shelves [letters]shelf
	rows    []int
}

// Sorted tells the places from which the ends of a text begin, in the order of the ends.
//
// Only valleys are held against each other. Two other ends with one first letter
// stand as the ends one place on do, so their order follows from rows already laid.
func Sorted(text string) []int {
	kinds := kindsOf(text)
	shelves, valleys := survey(text, kinds)
	slices.SortFunc(valleys, func(a, b int) int {
		return strings.Compare(text[a:], text[b:])
	})
	s := sorting{text, kinds, shelves, make([]int, len(text)+1)}
	s.layValleys(valleys)
	s.layFalling()
	s.layRising()
	return s.rows
}

// letter is the first letter of the end from place on. That of the empty end is
// ahead of all bytes, so that the empty end needs no care of its own.
func letter(text string, place int) int {
	if place == len(text) {
		return 0
	}
	return int(text[place]) + 1
}

// kindsOf tells the kind of each end. The empty end counts as a valley:
// no other end leads to it, so it must be laid with the valleys.
func kindsOf(text string) []kind {
	kinds := make([]kind, len(text)+1)
	kinds[len(text)] = valley
	for i := len(text) - 1; i >= 0; i-- {
		switch cmp.Compare(letter(text, i), letter(text, i+1)) {
		case -1:
			kinds[i] = rising
		case 0:
			kinds[i] = kinds[i+1]
		case 1:
			kinds[i] = falling
		}
		if kinds[i] == falling && kinds[i+1] == rising {
			kinds[i+1] = valley
		}
	}
	return kinds
}

// survey measures the shelf of each letter, and lists the valleys.
func survey(text string, kinds []kind) ([letters]shelf, []int) {
	var allOf, risingOf [letters]int
	var valleys []int
	for place, k := range kinds {
		c := letter(text, place)
		switch k {
		case valley:
			valleys = append(valleys, place)
			fallthrough
		case rising:
			risingOf[c]++
			fallthrough
		case falling:
			allOf[c]++
		}
	}
	return shelvesOf(allOf, risingOf), valleys
}

// shelvesOf puts the shelves one behind the other, by how many ends each letter has.
func shelvesOf(allOf, risingOf [letters]int) [letters]shelf {
	var shelves [letters]shelf
	front := 0
	for c := range letters {
		back := front + allOf[c]
		shelves[c] = shelf{front, back - risingOf[c], back}
		front = back
	}
	return shelves
}

// layValleys lays the sorted valleys where rising ends go. Only their order counts
// here: layRising lays them again, into the rows that are theirs.
func (s *sorting) layValleys(valleys []int) {
	for _, place := range valleys {
		c := letter(s.text, place)
		s.rows[s.shelves[c].middle] = place
		s.shelves[c].middle++
	}
}

// layFalling goes up the rows: a falling end stands behind the end one place on,
// so that one is met first.
func (s *sorting) layFalling() {
	for row := 0; row < len(s.rows); row++ {
		before := s.rows[row] - 1
		if before < 0 || s.kinds[before] != falling {
			continue
		}
		c := letter(s.text, before)
		s.rows[s.shelves[c].front] = before
		s.shelves[c].front++
	}
}

// layRising goes down the rows, for the like reason. Each row of a rising end, but
// that of the empty one, is laid before it is met, so no valley is met out of its row.
func (s *sorting) layRising() {
	for row := len(s.rows) - 1; row >= 0; row-- {
		before := s.rows[row] - 1
		if before < 0 || s.kinds[before] == falling {
			continue
		}
		c := letter(s.text, before)
		s.shelves[c].back--
		s.rows[s.shelves[c].back] = before
	}
}
