package concord_test

import (
	"math"
	"math/rand"
	"slices"
	"strings"
	"sync"
	"testing"

	"concord/api"
	"concord/concord"
)

// build makes an index, or ends the test.
func build(t *testing.T, s string, rate int) *concord.Index {
	t.Helper()
	x, e := concord.Build(s, rate)
	if x == nil || e != api.OK {
		t.Fatalf("P7: Build(%.60q, %d): %v, %d", s, rate, x != nil, e)
	}
	return x
}

// plainPlaces looks for a word at each place.
func plainPlaces(s, word string) []int {
	var l []int
	for i := range len(s) + 1 {
		if strings.HasPrefix(s[i:], word) {
			l = append(l, i)
		}
	}
	return l
}

// checkWord asks an index of s for a word.
func checkWord(t *testing.T, x *concord.Index, s, word string) {
	t.Helper()
	want := plainPlaces(s, word)
	if n := x.Count(word); n != len(want) {
		t.Fatalf("P8: in %.60q: Count(%.60q) = %d, want %d", s, word, n, len(want))
	}
	if l := x.Locate(word); !slices.Equal(l, want) {
		t.Fatalf("P8: in %.60q: Locate(%.60q) = %v, want %v", s, word, l, want)
	}
}

// checkPiece asks an index of s for a piece.
func checkPiece(t *testing.T, x *concord.Index, s string, a, b int) {
	t.Helper()
	if u, e := x.Extract(a, b); u != s[a:b] || e != api.OK {
		t.Fatalf("P9: of %.60q: Extract(%d, %d) = %.60q, %d", s, a, b, u, e)
	}
}

// checkNoPiece asks an index for a piece that is none.
func checkNoPiece(t *testing.T, x *concord.Index, a, b int) {
	t.Helper()
	if u, e := x.Extract(a, b); u != "" || e != api.ErrRange {
		t.Fatalf("P9: of %d bytes: Extract(%d, %d) = %.60q, %d", x.Len(), a, b, u, e)
	}
}

// sampleRates are rates beside each other and beside the bound.
func sampleRates() []int { return []int{1, 2, 3, 4, 5, 7, 8, 16, 63, api.MaxRate} }

func TestP7Length(t *testing.T) {
	for _, s := range append(longTexts(), "", "a", "\x00") {
		for _, rate := range sampleRates() {
			if n := build(t, s, rate).Len(); n != len(s) {
				t.Fatalf("P7: Len() of %d bytes, rate %d = %d", len(s), rate, n)
			}
		}
	}
}

func TestP7RefusedTextsAndRates(t *testing.T) {
	rates := []int{math.MinInt, math.MinInt32, -api.MaxRate, -1, 0, api.MaxRate + 1, 256, 257, 65537, 1 << 32, 1<<32 + 1, math.MaxInt}
	for _, rate := range rates {
		for _, n := range []int{0, 1, api.MaxText} {
			if x, e := concord.Build(strings.Repeat("a", n), rate); x != nil || e != api.ErrRate {
				t.Errorf("P7: Build of %d bytes, %d: %v, %d", n, rate, x != nil, e)
			}
		}
	}
	for _, rate := range append(rates, 1, api.MaxRate) {
		for _, n := range []int{api.MaxText + 1, 2 * api.MaxText, 70000} {
			if x, e := concord.Build(strings.Repeat("a", n), rate); x != nil || e != api.ErrLong {
				t.Errorf("P7: Build of %d bytes, %d: %v, %d", n, rate, x != nil, e)
			}
		}
	}
}

// All words up to one byte more than the text, in all short texts of the same letters and of one more.
func TestP8AllShortWords(t *testing.T) {
	for _, c := range []struct {
		letters string
		length  int
	}{{"\x00a\xff", 4}, {"ab", 6}} {
		var words []string
		for n := range c.length + 2 {
			words = append(words, wordsOf(c.letters, n)...)
		}
		words = append(words, wordsOf(c.letters+"k", 2)...)
		for n := range c.length + 1 {
			for _, s := range wordsOf(c.letters, n) {
				for rate := 1; rate <= n+2; rate++ {
					x := build(t, s, rate)
					for _, w := range words {
						checkWord(t, x, s, w)
					}
				}
			}
		}
	}
}

func TestP8TheEmptyWord(t *testing.T) {
	for _, s := range append(longTexts(), "", "a") {
		for _, rate := range sampleRates() {
			checkWord(t, build(t, s, rate), s, "")
		}
	}
}

// Words of long texts: single bytes, pieces, and pieces with an end or a front that is not there.
func TestP8LongTexts(t *testing.T) {
	r := rand.New(rand.NewSource(8))
	for _, s := range longTexts() {
		for _, rate := range []int{1, 1 + r.Intn(api.MaxRate), api.MaxRate} {
			x := build(t, s, rate)
			checkWord(t, x, s, s)
			checkWord(t, x, s, s[1:])
			checkWord(t, x, s, s[:len(s)-1])
			checkWord(t, x, s, s+s[:1])
			checkWord(t, x, s, s[len(s)-1:]+s)
			for range 20 {
				a := r.Intn(len(s))
				word := s[a : a+r.Intn(min(6, len(s)-a)+1)]
				odd := string([]byte{byte(r.Intn(256))})
				checkWord(t, x, s, word)
				checkWord(t, x, s, word+odd)
				checkWord(t, x, s, odd+word)
				checkWord(t, x, s, odd)
			}
		}
	}
}

// The places of words that overlap themselves are all told.
func TestP8WordsOverlap(t *testing.T) {
	s := strings.Repeat("a", 100)
	for rate := 1; rate <= api.MaxRate; rate++ {
		x := build(t, s, rate)
		for _, n := range []int{1, 2, 50, 99, 100, 101} {
			checkWord(t, x, s, strings.Repeat("a", n))
		}
	}
}

func TestP9AllPiecesOfShortTexts(t *testing.T) {
	for _, s := range append(wordsOf("\x00a\xff", 4), "", "a", "abracadabra", "mississippi") {
		for rate := 1; rate <= len(s)+2; rate++ {
			x := build(t, s, rate)
			for a := -2; a <= len(s)+2; a++ {
				for b := -2; b <= len(s)+2; b++ {
					if a < 0 || b > len(s) || a > b {
						checkNoPiece(t, x, a, b)
					} else {
						checkPiece(t, x, s, a, b)
					}
				}
			}
		}
	}
}

func TestP9LongTexts(t *testing.T) {
	r := rand.New(rand.NewSource(9))
	for _, s := range longTexts() {
		for _, rate := range sampleRates() {
			x := build(t, s, rate)
			checkPiece(t, x, s, 0, len(s))
			checkPiece(t, x, s, 0, 0)
			checkPiece(t, x, s, len(s), len(s))
			checkPiece(t, x, s, len(s)-1, len(s))
			for range 20 {
				a := r.Intn(len(s) + 1)
				checkPiece(t, x, s, a, a+r.Intn(len(s)-a+1))
			}
		}
	}
}

func TestP9PlacesOutside(t *testing.T) {
	for _, s := range []string{"", "a", "abracadabra", strings.Repeat("ab", api.MaxText/2)} {
		x := build(t, s, 3)
		n := len(s)
		far := []int{math.MinInt, math.MinInt32, -n - 1, -1, n + 1, 2*n + 2, math.MaxInt32 + 1, math.MaxInt}
		for _, a := range far {
			for _, b := range append(far, 0, n) {
				checkNoPiece(t, x, a, b)
				checkNoPiece(t, x, b, a)
			}
		}
	}
}

// Words that are longer than any text are in none, and looking for them ends soon.
func TestP1HugeWords(t *testing.T) {
	for _, s := range []string{"", "a", strings.Repeat("a", api.MaxText)} {
		x := build(t, s, api.MaxRate)
		for _, w := range []string{strings.Repeat("a", api.MaxText+1), strings.Repeat("a", 1<<24), strings.Repeat("\xff", 1<<24)} {
			if n, l := x.Count(w), x.Locate(w); n != 0 || len(l) != 0 {
				t.Errorf("P1: in %d bytes: a word of %d bytes %d times, %v", len(s), len(w), n, l)
			}
		}
	}
}

func TestP1NoIndexDoesNotPanic(t *testing.T) {
	none, _ := concord.Build("a", 0)
	for _, x := range []*concord.Index{none, {}} {
		if n := x.Len(); n != 0 {
			t.Errorf("P1: Len() of no index = %d", n)
		}
		for _, w := range []string{"", "a"} {
			if n, l := x.Count(w), x.Locate(w); n != 0 || len(l) != 0 {
				t.Errorf("P1: Count(%q), Locate of no index = %d, %v", w, n, l)
			}
		}
		for _, c := range [][2]int{{0, 0}, {0, 1}, {-1, 0}, {1, 0}} {
			checkNoPiece(t, x, c[0], c[1])
		}
	}
}

// Whoever changes a list of places, its spare room too, changes neither the index nor another list.
func TestP2PlacesAreNewMemory(t *testing.T) {
	for _, s := range []string{"", "a", "abracadabra", strings.Repeat("ab", api.MaxText/2)} {
		for _, rate := range sampleRates() {
			x := build(t, s, rate)
			for _, w := range []string{"", "a", "ab", s} {
				first, second := x.Locate(w), x.Locate(w)
				whole := first[:cap(first)]
				for i := range whole {
					whole[i] = -1
				}
				if want := plainPlaces(s, w); !slices.Equal(second, want) {
					t.Errorf("P2: in %.60q: Locate(%.60q) after a change = %v", s, w, second)
				}
				checkWord(t, x, s, w)
				checkPiece(t, x, s, 0, len(s))
			}
		}
	}
}

// An index answers the same whatever is asked beside and between, of it or of others.
func TestP2IndexHangsOnNothingElse(t *testing.T) {
	s := "abracadabra"
	shared := build(t, s, 4)
	var workers sync.WaitGroup
	for worker := range 4 {
		workers.Add(1)
		go func() {
			defer workers.Done()
			for i := range 50 {
				other := strings.Repeat(s[:1+i%len(s)], 1+worker)
				x, _ := concord.Build(other, 1+i)
				if u, e := x.Extract(0, len(other)); u != other || e != api.OK {
					t.Errorf("P2: Extract of %q = %q, %d", other, u, e)
				}
				if l := shared.Locate("a"); !slices.Equal(l, []int{0, 3, 5, 7, 10}) || shared.Count("abra") != 2 {
					t.Errorf("P2: Locate(a), Count(abra) = %v, %d", l, shared.Count("abra"))
				}
				if u, e := shared.Extract(3, 7); u != "acad" || e != api.OK {
					t.Errorf("P2: Extract(3, 7) = %q, %d", u, e)
				}
			}
		}()
	}
	workers.Wait()
}

// What an index answers does not hang on the rate.
func TestP12TheRateIsNotSeen(t *testing.T) {
	s := strings.Repeat("she sells sea shells ", 5)
	for rate := 1; rate <= api.MaxRate; rate++ {
		x := build(t, s, rate)
		for _, w := range []string{"", "s", "se", "she", "shells sea", "sea shells ", "shore"} {
			checkWord(t, x, s, w)
		}
		for a := range len(s) + 1 {
			checkPiece(t, x, s, a, min(a+9, len(s)))
		}
	}
}
