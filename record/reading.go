package record

import (
	"concord/bitlist"
	"concord/codes"
)

// kind is what a byte is there for.
type kind int

const (
	front   kind = iota // the letter
	first               // the first byte of a number
	further             // each other byte of it
	flags               // which bytes are there, for eight of them
	packed              // eight bits of codes
)

// reading is what bytes have told so far.
type reading struct {
	numbers []int  // the rate, the length, the row; then how often each byte is there
	there   []byte // the bytes that are, the least first
	bits    bitlist.List
}

// kindAt tells the kind of the byte at a place, if all ahead of it has been taken.
func (r *reading) kindAt(place int) kind {
	switch {
	case place == 0:
		return front
	case place >= flagsAt && place < countsAt:
		return flags
	case place >= countsAt+numberSize*len(r.there):
		return packed
	case place%numberSize == 1:
		// Ahead of the flags and behind them, numbers begin at odd places.
		return first
	}
	return further
}

// take notes what the byte at a place tells.
func (r *reading) take(place int, b byte) {
	switch r.kindAt(place) {
	case first:
		r.numbers = append(r.numbers, 0)
		fallthrough
	case further:
		last := &r.numbers[len(r.numbers)-1]
		*last = *last<<8 | int(b)
	case flags:
		r.flag(8*(place-flagsAt), b)
	case packed:
		r.bits.Lay(bitlist.Run{Size: 8, Bits: uint64(b)})
	}
}

// flag notes which of eight bytes are there.
func (r *reading) flag(least int, set byte) {
	for i := range 8 {
		if set>>i&1 == 1 {
			r.there = append(r.there, byte(least+i))
		}
	}
}

// record gives what has been told; false, if it ended ahead of the codes.
func (r *reading) record() (Record, bool) {
	rate, length, row, often := r.numbers[0], r.numbers[1], r.numbers[2], r.numbers[3:]
	if len(often) < len(r.there) {
		return Record{}, false
	}
	var counts [256]int
	for i, c := range r.there {
		counts[c] = often[i]
	}
	return Record{rate, row, r.unpack(length, codes.Of(counts))}, true
}

// unpack gives the bytes whose codes have been laid, as many as asked for, if there are so many.
func (r *reading) unpack(length int, made [256]bitlist.Run) string {
	bytes := codes.Bytes(made)
	var text []byte
	var code bitlist.Run
	for place := 0; place < r.bits.Size() && len(text) < length; place++ {
		code = code.With(r.bits.Bit(place))
		if c, ok := bytes[code]; ok {
			text = append(text, c)
			code = bitlist.Run{}
		}
	}
	return string(text)
}
