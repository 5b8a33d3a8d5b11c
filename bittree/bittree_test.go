package bittree

import (
	"slices"
	"strings"
	"testing"

	"concord/bitlist"
	"concord/codes"
)

func texts() []string {
	all := make([]byte, 256)
	for i := range all {
		all[i] = byte(i * 7)
	}
	return []string{"", "a", "\x00", "\xff", "aaaa", "ab", "abracadabra", "\x00\xff\x00a", strings.Repeat("mississippi", 20), string(all), string(all) + strings.Repeat("a", 100)}
}

func TestAt(t *testing.T) {
	for _, text := range texts() {
		tree := Of(text)
		if tree.Size() != len(text) {
			t.Errorf("%q has %d bytes", text, tree.Size())
		}
		if got := tree.Text(); got != text {
			t.Errorf("Text of %q = %q", text, got)
		}
		for i := range len(text) {
			c, ahead := tree.At(i)
			if want := strings.Count(text[:i], text[i:i+1]); c != text[i] || ahead != want {
				t.Errorf("At(%d) of %q = %q, %d, want %d", i, text, c, ahead, want)
			}
		}
	}
}

// numbers gives by plain counting which of all bytes c stand in ranges.
func numbers(text string, c byte, ranges []bitlist.Range) []int {
	var l []int
	for _, r := range ranges {
		for i := r.From; i < r.To; i++ {
			if text[i] == c {
				l = append(l, strings.Count(text[:i], text[i:i+1]))
			}
		}
	}
	return l
}

// each gives the numbers in ranges one by one.
func each(ranges []bitlist.Range) []int {
	var l []int
	for _, r := range ranges {
		for i := r.From; i < r.To; i++ {
			l = append(l, i)
		}
	}
	return l
}

func TestAmongAndSplit(t *testing.T) {
	for _, text := range texts() {
		tree := Of(text)
		n := len(text)
		for _, ranges := range [][]bitlist.Range{nil, {{From: 0, To: n}}, {{From: 0, To: 0}, {From: n, To: n}}, {{From: n / 3, To: n / 2}}, {{From: 0, To: n / 4}, {From: n / 3, To: n / 2}, {From: n - n/4, To: n}}} {
			split := tree.Split(ranges...)
			for c := range 256 {
				want := numbers(text, byte(c), ranges)
				if got := each(tree.Among(byte(c), ranges...)); !slices.Equal(got, want) {
					t.Errorf("Among(%d, %v) of %q = %v, want %v", c, ranges, text, got, want)
				}
				if got := each(split[c]); !slices.Equal(got, want) {
					t.Errorf("Split(%v) of %q for %d = %v, want %v", ranges, text, c, got, want)
				}
				if !slices.Equal(split[c], tree.Among(byte(c), ranges...)) {
					t.Errorf("Split(%v) of %q for %d = %v", ranges, text, c, split[c])
				}
			}
		}
	}
}

// bitsIn counts all bits of a node and what is below it.
func bitsIn(n *node) int {
	if n == nil {
		return 0
	}
	return n.bits.Size() + bitsIn(n.sides[0]) + bitsIn(n.sides[1])
}

// The tree has no more bits than the codes do.
func TestFewBits(t *testing.T) {
	for _, text := range texts() {
		counts := codes.Count(text)
		want := 0
		for c, code := range codes.Of(counts) {
			want += counts[c] * code.Size
		}
		tree := Of(text)
		if got := bitsIn(tree.root); got != want {
			t.Errorf("the tree of %q has %d bits, want %d", text, got, want)
		}
	}
}
