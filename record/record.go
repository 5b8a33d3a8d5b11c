// Package record writes what an index is made of as bytes, and reads them again strictly.
package record

import (
	"slices"

	"concord/api"
	"concord/bitlist"
	"concord/codes"
	"concord/turn"
)

// letter is the byte in front.
const letter = 'C'

// Where the parts begin, and how many bytes they have.
const (
	numberSize = 2
	flagsAt    = 1 + 3*numberSize // behind the letter, the rate, the length and the row
	flagsSize  = 256 / 8
	countsAt   = flagsAt + flagsSize
	sumSize    = 4
	shortest   = countsAt + sumSize

	// Codes have the fewest bits that codes can have: no more than the bytes themselves, which are eight each.
	longest = countsAt + 256*numberSize + api.MaxText + sumSize
)

// Record is what an index is made of.
type Record struct {
	Rate   int
	Row    int
	Turned string
}

// Write gives the record as bytes.
func (r Record) Write() string {
	counts := codes.Count(r.Turned)
	there, often := present(counts)
	body := slices.Concat(
		[]byte{letter},
		digits(numberSize, r.Rate, len(r.Turned), r.Row),
		there,
		digits(numberSize, often...),
		pack(r.Turned, codes.Of(counts)),
	)
	return string(append(body, digits(sumSize, int(sum(body)))...))
}

// present gives the flags that tell which bytes are there, and how often each of these is, the least byte first.
func present(counts [256]int) ([]byte, []int) {
	there := make([]byte, flagsSize)
	var often []int
	for c, n := range counts {
		if n > 0 {
			there[c/8] |= 1 << (c % 8)
			often = append(often, n)
		}
	}
	return there, often
}

// digits gives numbers, one or many, in so many bytes each, the greatest byte first.
func digits(size int, numbers ...int) []byte {
	var bytes []byte
	for _, n := range numbers {
		for i := size - 1; i >= 0; i-- {
			bytes = append(bytes, byte(n>>(8*i)))
		}
	}
	return bytes
}

// pack lays the codes of a text's bytes one behind the other.
func pack(text string, made [256]bitlist.Run) []byte {
	runs := make([]bitlist.Run, len(text))
	for i := range runs {
		runs[i] = made[text[i]]
	}
	var list bitlist.List
	list.Lay(runs...)
	return list.Bytes()
}

// Read gives the record that is written d; false, if no index of any text is.
//
// What the bytes tell is taken on trust, and only for what a record needs: whatever
// else is wrong, the sum too, is seen when the record is written again.
func Read(d string) (Record, bool) {
	if len(d) < shortest || len(d) > longest {
		return Record{}, false
	}
	var told reading
	for place := range len(d) - sumSize {
		told.take(place, d[place])
	}
	r, ok := told.record()
	if !ok || !r.sound() || r.Write() != d {
		return Record{}, false
	}
	return r, true
}

// sound tells whether there is a text that is turned so, and whether it can have an index with this rate.
func (r Record) sound() bool {
	if len(r.Turned) > api.MaxText || r.Rate < 1 || r.Rate > api.MaxRate {
		return false
	}
	_, ok := turn.Back(r.Turned, r.Row)
	return ok
}
