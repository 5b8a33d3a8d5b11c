package ends

import (
	"slices"
	"strings"
	"testing"
)

func TestKindsOf(t *testing.T) {
	for _, c := range []struct {
		text string
		want []kind
	}{
		{"", []kind{valley}},
		{"a", []kind{falling, valley}},
		{"ab", []kind{rising, falling, valley}},
		{"ba", []kind{falling, falling, valley}},
		{"aab", []kind{rising, rising, falling, valley}},
		{"baab", []kind{falling, valley, rising, falling, valley}},
		{"abab", []kind{rising, falling, valley, falling, valley}},
		{"\xff\x00\xff", []kind{falling, valley, falling, valley}},
	} {
		if got := kindsOf(c.text); !slices.Equal(got, c.want) {
			t.Errorf("kindsOf(%q) = %v, want %v", c.text, got, c.want)
		}
	}
}

func TestSurvey(t *testing.T) {
	text := "baab"
	shelves, valleys := survey(text, kindsOf(text))
	if want := []int{1, 4}; !slices.Equal(valleys, want) {
		t.Errorf("valleys of %q: %v, want %v", text, valleys, want)
	}
	for _, c := range []struct {
		letter int
		want   shelf
	}{
		{0, shelf{0, 0, 1}},
		{'a' + 1, shelf{1, 1, 3}},
		{'b' + 1, shelf{3, 5, 5}},
		{256, shelf{5, 5, 5}},
	} {
		if got := shelves[c.letter]; got != c.want {
			t.Errorf("shelf of letter %d: %v, want %v", c.letter, got, c.want)
		}
	}
}

func TestSorted(t *testing.T) {
	for _, c := range []struct {
		text string
		want []int
	}{
		{"", []int{0}},
		{"a", []int{1, 0}},
		{"abab", []int{4, 2, 0, 3, 1}},
		{"baab", []int{4, 1, 2, 3, 0}},
		{"banana", []int{6, 5, 3, 1, 0, 4, 2}},
		{"\x00\x00\xff", []int{3, 0, 1, 2}},
	} {
		if got := Sorted(c.text); !slices.Equal(got, c.want) {
			t.Errorf("Sorted(%q) = %v, want %v", c.text, got, c.want)
		}
	}
}

// Long runs and repeated words have many ends that differ late.
func TestSortedOfTextsThatRepeat(t *testing.T) {
	for _, word := range []string{"a", "ab", "ba", "aab", "abb", "abcb", "\x00\xff", "mississippi"} {
		text := strings.Repeat(word, 200)
		rows := Sorted(text)
		for i := 1; i < len(rows); i++ {
			if text[rows[i-1]:] >= text[rows[i]:] {
				t.Errorf("%q repeated: row %d is not ahead of the next", word, i-1)
				break
			}
		}
		if len(rows) != len(text)+1 {
			t.Errorf("%q repeated: %d rows, want %d", word, len(rows), len(text)+1)
		}
	}
}
