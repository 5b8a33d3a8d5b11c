package turn

import (
	"slices"
	"testing"
)

func TestForth(t *testing.T) {
	for _, c := range []struct {
		text, turned string
		row          int
	}{
		{"", "", 0},
		{"a", "a", 1},
		{"abab", "bbaa", 2},
		{"banana", "annbaa", 4},
	} {
		if turned, row := Forth(c.text); turned != c.turned || row != c.row {
			t.Errorf("Forth(%q) = %q, %d, want %q, %d", c.text, turned, row, c.turned, c.row)
		}
	}
}

func TestBack(t *testing.T) {
	for _, c := range []struct {
		turned string
		row    int
		text   string
		ok     bool
	}{
		{"", 0, "", true},
		{"", 1, "", false},
		{"a", 1, "a", true},
		{"a", 0, "", false},
		{"bbaa", 2, "abab", true},
		{"bbaa", 0, "", false},
		{"bbaa", 5, "", false},
		{"bbaa", -1, "", false},
		{"abab", 2, "", false},
	} {
		if text, ok := Back(c.turned, c.row); text != c.text || ok != c.ok {
			t.Errorf("Back(%q, %d) = %q, %t, want %q, %t", c.turned, c.row, text, ok, c.text, c.ok)
		}
	}
}

func TestLeads(t *testing.T) {
	if got, want := leads("annbaa"), []int{1, 5, 6, 4, 2, 3}; !slices.Equal(got, want) {
		t.Errorf("leads = %v, want %v", got, want)
	}
}

func TestStarts(t *testing.T) {
	starts := Starts("annbaa")
	for c, want := range map[byte]int{0: 1, 'a': 1, 'b': 4, 'c': 5, 'n': 5, 'o': 7, 255: 7} {
		if starts[c] != want {
			t.Errorf("Starts of %q = %d, want %d", c, starts[c], want)
		}
	}
}
