// Package concord: an index of all places of all words of a text, which keeps the text in fewer bits and gives it back: see DOC.md.
package concord

import (
	"concord/api"
	"concord/bitlist"
	"concord/codes"
	"concord/ends"
	"concord/index"
	"concord/record"
	"concord/turn"
)

// Suffixes tells a text's ends in their order (P3).
func Suffixes(t string) ([]int, api.Errno) {
	if len(t) > api.MaxText {
		return nil, api.ErrLong
	}
	return ends.Sorted(t), api.OK
}

// Transform turns a text (P4).
func Transform(t string) (string, int, api.Errno) {
	if len(t) > api.MaxText {
		return "", 0, api.ErrLong
	}
	turned, row := turn.Forth(t)
	return turned, row, api.OK
}

// Restore turns it back (P4).
func Restore(b string, row int) (string, api.Errno) {
	if len(b) > api.MaxText {
		return "", api.ErrLong
	}
	text, ok := turn.Back(b, row)
	if !ok {
		return "", api.ErrForm
	}
	return text, api.OK
}

// Bits are noughts and ones.
type Bits struct{ list bitlist.List }

// NewBits makes bits of a text of noughts and ones (P5).
func NewBits(s string) (*Bits, api.Errno) {
	runs, ok := bitlist.Read(s)
	if !ok {
		return nil, api.ErrForm
	}
	b := &Bits{}
	b.list.Lay(runs...)
	return b, api.OK
}

// Rank tells how many ones there are ahead of a place (P5).
func (b *Bits) Rank(i int) (int, api.Errno) {
	// NewBits gives nil with an error: there is no place in that.
	if b == nil || i < 0 || i > b.list.Size() {
		return 0, api.ErrRange
	}
	return b.list.Rank(i), api.OK
}

// Select tells where a one is (P5).
func (b *Bits) Select(k int) (int, api.Errno) {
	if b == nil || k < 0 || k >= b.list.Ones() {
		return 0, api.ErrRange
	}
	return b.list.Select(k), api.OK
}

// Codes tells the bytes' codes, and how many bits the text has by them (P6).
func Codes(t string) ([]string, int, api.Errno) {
	if len(t) > api.MaxText {
		return nil, 0, api.ErrLong
	}
	counts := codes.Count(t)
	texts := make([]string, len(counts))
	size := 0
	for c, code := range codes.Of(counts) {
		texts[c] = code.Text()
		size += counts[c] * code.Size
	}
	return texts, size, api.OK
}

// Index is an index.
type Index struct{ kept *index.Index }

// none tells that no text is kept: Build gives nil with an error.
func (x *Index) none() bool { return x == nil || x.kept == nil }

// Build makes an index of a text (P7).
func Build(t string, rate int) (*Index, api.Errno) {
	if len(t) > api.MaxText {
		return nil, api.ErrLong
	}
	if rate < 1 || rate > api.MaxRate {
		return nil, api.ErrRate
	}
	turned, row := turn.Forth(t)
	return &Index{index.Of(turned, row, rate)}, api.OK
}

// Len tells how long the text is (P7).
func (x *Index) Len() int {
	if x.none() {
		return 0
	}
	return x.kept.Len()
}

// Count tells how often a word is in the text (P8).
func (x *Index) Count(p string) int {
	if x.none() {
		return 0
	}
	return x.kept.Count(p)
}

// Locate tells where (P8).
func (x *Index) Locate(p string) []int {
	if x.none() {
		return nil
	}
	return x.kept.Locate(p)
}

// Extract gives a piece of the text (P9).
func (x *Index) Extract(a int, b int) (string, api.Errno) {
	if x.none() || a < 0 || b > x.Len() || a > b {
		return "", api.ErrRange
	}
	return x.kept.Extract(a, b), api.OK
}

// Marshal writes an index as bytes (P10).
func (x *Index) Marshal() string {
	if x.none() {
		return ""
	}
	turned, row, rate := x.kept.Parts()
	return record.Record{Rate: rate, Row: row, Turned: turned}.Write()
}

// Unmarshal makes an index of bytes (P11).
func Unmarshal(d string) (*Index, api.Errno) {
	r, ok := record.Read(d)
	if !ok {
		return nil, api.ErrForm
	}
	return &Index{index.Of(r.Turned, r.Row, r.Rate)}, api.OK
}
