package concord_test

import (
	"math"
	"math/rand"
	"slices"
	"strings"
	"sync"
	"testing"

	"concord/api"
	"concord/concord"
)

// wordsOf lists all texts of just n of the letters.
func wordsOf(letters string, n int) []string {
	words := []string{""}
	for range n {
		var longer []string
		for _, w := range words {
			for i := range len(letters) {
				longer = append(longer, w+letters[i:i+1])
			}
		}
		words = longer
	}
	return words
}

// shortTexts lists all texts of few letters up to a length. The letters are
// the least byte, a middle one and the greatest.
func shortTexts() []string {
	var l []string
	for n := range 7 {
		l = append(l, wordsOf("\x00a\xff", n)...)
	}
	for n := 7; n <= 11; n++ {
		l = append(l, wordsOf("ab", n)...)
	}
	return l
}

// longTexts lists texts up to MaxText bytes: with one letter, with words that repeat, with all bytes.
func longTexts() []string {
	all := make([]byte, 256)
	for i := range all {
		all[i] = byte(i)
	}
	rising := string(all)
	slices.Reverse(all)
	l := []string{"abracadabra", "mississippi", "na\xc3\xafve", rising, string(all)}
	for _, w := range []string{"\x00", "a", "\xff", "ab", "ba", "aab", "bba", "abac", rising, string(all)} {
		l = append(l, strings.Repeat(w, api.MaxText)[:api.MaxText], strings.Repeat(w, api.MaxText)[:api.MaxText-1])
	}
	l = append(l, fibonacci(api.MaxText))
	r := rand.New(rand.NewSource(3))
	for _, letters := range []int{2, 3, 16, 256} {
		for _, n := range []int{50, 257, api.MaxText} {
			b := make([]byte, n)
			for i := range b {
				b[i] = byte(r.Intn(letters))
			}
			l = append(l, string(b))
		}
	}
	return l
}

// fibonacci is a text whose ends differ as late as ends can in many places.
func fibonacci(n int) string {
	a, b := "a", "ab"
	for len(b) < n {
		a, b = b, b+a
	}
	return b[:n]
}

// plainSuffixes sorts the ends by holding them against each other.
func plainSuffixes(s string) []int {
	places := make([]int, len(s)+1)
	for i := range places {
		places[i] = i
	}
	slices.SortFunc(places, func(a, b int) int { return strings.Compare(s[a:], s[b:]) })
	return places
}

// plainTransform turns a text as the document says it.
func plainTransform(s string) (string, int) {
	var b strings.Builder
	row := 0
	for i, place := range plainSuffixes(s) {
		if place == 0 {
			row = i
		} else {
			b.WriteByte(s[place-1])
		}
	}
	return b.String(), row
}

func TestP3SuffixesAreTheSortedEnds(t *testing.T) {
	for _, s := range append(shortTexts(), longTexts()...) {
		l, e := concord.Suffixes(s)
		if e != api.OK || !slices.Equal(l, plainSuffixes(s)) {
			t.Fatalf("P3: Suffixes(%.60q) = %v, %d", s, l, e)
		}
	}
}

func TestP3Edges(t *testing.T) {
	if l, e := concord.Suffixes(""); e != api.OK || !slices.Equal(l, []int{0}) {
		t.Errorf("P3: Suffixes of the empty text = %v, %d", l, e)
	}
	if l, e := concord.Suffixes(strings.Repeat("a", api.MaxText)); e != api.OK || len(l) != api.MaxText+1 || l[0] != api.MaxText {
		t.Errorf("P3: Suffixes of MaxText bytes: %d places, %d", len(l), e)
	}
	for _, n := range []int{api.MaxText + 1, 100 * api.MaxText} {
		if l, e := concord.Suffixes(strings.Repeat("ab", n)[:n]); e != api.ErrLong || l != nil {
			t.Errorf("P3: Suffixes of %d bytes: %d places, %d", n, len(l), e)
		}
	}
}

func TestP4TransformTurns(t *testing.T) {
	for _, s := range append(shortTexts(), longTexts()...) {
		want, wantRow := plainTransform(s)
		b, row, e := concord.Transform(s)
		if e != api.OK || b != want || row != wantRow {
			t.Fatalf("P4: Transform(%.60q) = %.60q, %d, %d, want %.60q, %d", s, b, row, e, want, wantRow)
		}
		if u, e := concord.Restore(b, row); e != api.OK || u != s {
			t.Fatalf("P4: Restore(%.60q, %d) = %.60q, %d, want %.60q", b, row, u, e, s)
		}
	}
}

// turned is what a text turns into.
type turned struct {
	bytes string
	row   int
}

// All bytes of one length, with all rows and some more: those that a text of this
// length turns into are restored, and no others.
func TestP4RestoreTakesJustWhatTextsTurnInto(t *testing.T) {
	for _, c := range []struct {
		letters string
		length  int
	}{{"\x00a\xff", 6}, {"ab", 10}} {
		for n := range c.length + 1 {
			checkRestore(t, wordsOf(c.letters, n))
		}
	}
}

// checkRestore asks for Restore of all words, which are all of one length and of the same letters.
func checkRestore(t *testing.T, words []string) {
	t.Helper()
	texts := map[turned]string{}
	for _, w := range words {
		b, row := plainTransform(w)
		texts[turned{b, row}] = w
	}
	if len(texts) != len(words) {
		t.Fatalf("P4: %d texts turn into %d", len(words), len(texts))
	}
	for _, b := range words {
		for row := -2; row <= len(b)+2; row++ {
			want, known := texts[turned{b, row}]
			wantErr := api.OK
			if !known {
				wantErr = api.ErrForm
			}
			if u, e := concord.Restore(b, row); u != want || e != wantErr {
				t.Fatalf("P4: Restore(%q, %d) = %q, %d, want %q, %d", b, row, u, e, want, wantErr)
			}
		}
	}
}

func TestP4Edges(t *testing.T) {
	if b, row, e := concord.Transform(""); b != "" || row != 0 || e != api.OK {
		t.Errorf("P4: Transform of the empty text = %q, %d, %d", b, row, e)
	}
	if u, e := concord.Restore("", 0); u != "" || e != api.OK {
		t.Errorf("P4: Restore of the empty text = %q, %d", u, e)
	}
	long := strings.Repeat("a", api.MaxText)
	if b, row, e := concord.Transform(long); b != long || row != api.MaxText || e != api.OK {
		t.Errorf("P4: Transform of MaxText bytes: %d bytes, %d, %d", len(b), row, e)
	}
	if u, e := concord.Restore(long, api.MaxText); u != long || e != api.OK {
		t.Errorf("P4: Restore of MaxText bytes: %d bytes, %d", len(u), e)
	}
	if b, row, e := concord.Transform(long + "a"); b != "" || row != 0 || e != api.ErrLong {
		t.Errorf("P4: Transform of a byte more: %d bytes, %d, %d", len(b), row, e)
	}
	if u, e := concord.Restore(long+"a", api.MaxText+1); u != "" || e != api.ErrLong {
		t.Errorf("P4: Restore of a byte more: %d bytes, %d", len(u), e)
	}
}

func TestP4RowsOfLongTexts(t *testing.T) {
	for _, s := range longTexts() {
		b, own := plainTransform(s)
		for row := range len(b) + 1 {
			u, e := concord.Restore(b, row)
			switch {
			case e == api.OK:
				if c, r := plainTransform(u); c != b || r != row {
					t.Fatalf("P4: Restore(%.60q, %d) = %.60q, which is turned otherwise", b, row, u)
				}
			case e != api.ErrForm || u != "" || row == own:
				t.Fatalf("P4: Restore(%.60q, %d) = %.60q, %d", b, row, u, e)
			}
		}
	}
}

func TestP1NoRowAndNoBytesPanic(t *testing.T) {
	rows := []int{math.MinInt, math.MinInt + 1, math.MinInt32, -1001, -1, math.MaxInt32, math.MaxUint32, math.MaxInt - 1, math.MaxInt}
	for _, s := range append([]string{"", "a", "bbaa"}, longTexts()...) {
		for _, row := range append(rows, len(s)+1, len(s)+2) {
			if u, e := concord.Restore(s, row); u != "" || e != api.ErrForm {
				t.Errorf("P1: Restore(%.60q, %d) = %.60q, %d", s, row, u, e)
			}
		}
	}
	r := rand.New(rand.NewSource(4))
	for range 2000 {
		b := make([]byte, r.Intn(40))
		r.Read(b)
		row := r.Intn(len(b) + 1)
		u, e := concord.Restore(string(b), row)
		if e != api.OK && (e != api.ErrForm || u != "") {
			t.Errorf("P1: Restore(%q, %d) = %q, %d", b, row, u, e)
		}
	}
}

// A text that is too long is told ahead of a row that is none.
func TestP1TheFirstErrorIsTold(t *testing.T) {
	long := strings.Repeat("ab", api.MaxText)
	for _, row := range []int{math.MinInt, -1, 0, 1, api.MaxText, len(long), len(long) + 1, math.MaxInt} {
		if u, e := concord.Restore(long, row); u != "" || e != api.ErrLong {
			t.Errorf("P1: Restore of %d bytes, %d = %.60q, %d", len(long), row, u, e)
		}
	}
}

// Whoever changes a list that came out, its spare room too, changes no other answer.
func TestP2ListsAreNewMemory(t *testing.T) {
	for _, s := range []string{"", "a", "abab", "abracadabra", strings.Repeat("ab", api.MaxText/2)} {
		first, _ := concord.Suffixes(s)
		second, _ := concord.Suffixes(s)
		whole := first[:cap(first)]
		for i := range whole {
			whole[i] = -1
		}
		third, _ := concord.Suffixes(s)
		if want := plainSuffixes(s); !slices.Equal(second, want) || !slices.Equal(third, want) {
			t.Errorf("P2: Suffixes(%.60q) after a change = %v, %v", s, second, third)
		}
	}
}

// The same arguments have the same answers, whatever was asked between and beside.
func TestP2AnswersHangOnArguments(t *testing.T) {
	texts := append([]string{"", "a", "abab", strings.Repeat("a", api.MaxText+1)}, longTexts()...)
	var workers sync.WaitGroup
	for worker := range 4 {
		workers.Add(1)
		go func() {
			defer workers.Done()
			for i := range texts {
				s := texts[(i*(2*worker+1)+worker)%len(texts)]
				checkAnswers(t, s)
			}
		}()
	}
	workers.Wait()
}

// checkAnswers holds the answers for one text against those of the plain ways.
func checkAnswers(t *testing.T, s string) {
	if len(s) > api.MaxText {
		if l, e := concord.Suffixes(s); l != nil || e != api.ErrLong {
			t.Errorf("P2: Suffixes of %d bytes: %v, %d", len(s), l, e)
		}
		if l, n, e := concord.Codes(s); l != nil || n != 0 || e != api.ErrLong {
			t.Errorf("P2: Codes of %d bytes: %q, %d, %d", len(s), l, n, e)
		}
		return
	}
	want, wantRow := plainTransform(s)
	if l, e := concord.Suffixes(s); e != api.OK || !slices.Equal(l, plainSuffixes(s)) {
		t.Errorf("P2: Suffixes(%.60q) = %v, %d", s, l, e)
	}
	if b, row, e := concord.Transform(s); e != api.OK || b != want || row != wantRow {
		t.Errorf("P2: Transform(%.60q) = %.60q, %d, %d", s, b, row, e)
	}
	if u, e := concord.Restore(want, wantRow); e != api.OK || u != s {
		t.Errorf("P2: Restore(%.60q, %d) = %.60q, %d", want, wantRow, u, e)
	}
	codes := plainCodes(s)
	if l, _, e := concord.Codes(s); e != api.OK || !slices.Equal(l, codes[:]) {
		t.Errorf("P2: Codes(%.60q) = %q, %d", s, l, e)
	}
}
