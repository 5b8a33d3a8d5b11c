package rows

import (
	"slices"
	"strings"
	"testing"

	"concord/bitlist"
	"concord/ends"
	"concord/turn"
)

var texts = []string{"", "a", "aaaa", "ab", "abab", "abracadabra", "\x00\xff\x00", strings.Repeat("mississippi", 5)}

func TestAhead(t *testing.T) {
	for _, text := range texts {
		r := Of(turn.Forth(text))
		wantTurned, wantRow := turn.Forth(text)
		if turned, row := r.Turned(); turned != wantTurned || row != wantRow {
			t.Errorf("%q is turned %q, %d, want %q, %d", text, turned, row, wantTurned, wantRow)
		}
		if r.Len() != len(text) || r.All() != (bitlist.Range{From: 0, To: len(text) + 1}) {
			t.Errorf("of %q: %d, %v", text, r.Len(), r.All())
		}
		sorted := ends.Sorted(text)
		for row, place := range sorted {
			if place == 0 {
				continue
			}
			c, longer := r.Ahead(row)
			if c != text[place-1] || sorted[longer] != place-1 {
				t.Errorf("Ahead(%d) in %q = %q, %d", row, text, c, longer)
			}
		}
	}
}

// longer gives by the sorted ends the rows of ends that are one byte longer than those in ranges, rising.
func longer(text string, is func(byte) bool, ranges []bitlist.Range) []int {
	sorted := ends.Sorted(text)
	var l []int
	for _, r := range ranges {
		for _, place := range sorted[r.From:r.To] {
			if place > 0 && is(text[place-1]) {
				l = append(l, slices.Index(sorted, place-1))
			}
		}
	}
	slices.Sort(l)
	return l
}

// each gives the rows in ranges one by one, rising.
func each(ranges []bitlist.Range) []int {
	var l []int
	for _, r := range ranges {
		for i := r.From; i < r.To; i++ {
			l = append(l, i)
		}
	}
	slices.Sort(l)
	return l
}

// Whether rows are handed over in one range or in many, none of the longer ends is left out or told twice.
func TestLonger(t *testing.T) {
	for _, text := range texts {
		r := Of(turn.Forth(text))
		n := len(text) + 1
		for from := range n {
			for to := from; to <= n; to++ {
				for _, ranges := range [][]bitlist.Range{{{From: from, To: to}}, {{From: 0, To: from}, {From: to, To: n}}} {
					any := func(byte) bool { return true }
					if got, want := each(r.Longer(ranges...)), longer(text, any, ranges); !slices.Equal(got, want) {
						t.Fatalf("Longer(%v) in %q = %v, want %v", ranges, text, got, want)
					}
					for _, c := range []byte("ab\x00\xffs") {
						same := func(b byte) bool { return b == c }
						if got, want := each(r.LongerBy(c, ranges...)), longer(text, same, ranges); !slices.Equal(got, want) {
							t.Fatalf("LongerBy(%q, %v) in %q = %v, want %v", c, ranges, text, got, want)
						}
					}
				}
			}
		}
	}
}
