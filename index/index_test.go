package index

import (
	"slices"
	"testing"

	"concord/turn"
)

func of(text string, rate int) *Index {
	turned, row := turn.Forth(text)
	return Of(turned, row, rate)
}

// No more places are known than the rate asks for.
func TestKnownPlaces(t *testing.T) {
	for _, text := range []string{"", "a", "abracadabra", "mississippi"} {
		for rate := 1; rate < 15; rate++ {
			x := of(text, rate)
			known := slices.Sorted(slices.Values(x.known))
			var want []int
			for place := 0; place <= len(text); place += rate {
				want = append(want, place)
			}
			if !slices.Equal(known, want) || x.marked.Ones() != len(want) || x.marked.Size() != len(text)+1 {
				t.Errorf("of %q, %d: known %v, %d of %d rows", text, rate, known, x.marked.Ones(), x.marked.Size())
			}
		}
	}
}

func TestNear(t *testing.T) {
	x := of("abracadabra", 4)
	for _, c := range []struct{ place, next, row int }{{0, 0, 3}, {1, 4, 8}, {4, 4, 8}, {5, 8, 6}, {8, 8, 6}, {9, 11, 0}, {11, 11, 0}} {
		if next, row := x.near(c.place); next != c.next || row != c.row {
			t.Errorf("near(%d) = %d, %d, want %d, %d", c.place, next, row, c.next, c.row)
		}
	}
}

func TestParts(t *testing.T) {
	for _, text := range []string{"", "a", "abracadabra"} {
		for rate := 1; rate < 4; rate++ {
			wantTurned, wantRow := turn.Forth(text)
			if turned, row, got := of(text, rate).Parts(); turned != wantTurned || row != wantRow || got != rate {
				t.Errorf("of %q, %d: %q, %d, %d", text, rate, turned, row, got)
			}
		}
	}
}
