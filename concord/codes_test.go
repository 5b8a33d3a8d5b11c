package concord_test

import (
	"math/rand"
	"slices"
	"strings"
	"testing"

	"concord/api"
	"concord/concord"
)

// plainTree is a tree as the document tells it.
type plainTree struct {
	weight int
	bytes  []int
}

// plainCodes makes codes by looking through all trees each time, and putting each side
// ahead of the codes that the bytes of a tree have so far.
func plainCodes(s string) [256]string {
	var codes [256]string
	var trees []plainTree
	for c := range 256 {
		if n := strings.Count(s, string([]byte{byte(c)})); n > 0 {
			trees = append(trees, plainTree{n, []int{c}})
		}
	}
	if len(trees) == 1 {
		codes[s[0]] = "0"
	}
	for len(trees) > 1 {
		both := plainTree{}
		for _, side := range []string{"0", "1"} {
			at := firstOf(trees)
			for _, c := range trees[at].bytes {
				codes[c] = side + codes[c]
			}
			both.weight += trees[at].weight
			both.bytes = append(both.bytes, trees[at].bytes...)
			trees = slices.Delete(trees, at, at+1)
		}
		trees = append(trees, both)
	}
	return codes
}

// firstOf tells where the tree is that goes first.
func firstOf(trees []plainTree) int {
	at := 0
	for i, x := range trees {
		y := trees[at]
		if x.weight < y.weight || x.weight == y.weight && slices.Min(x.bytes) < slices.Min(y.bytes) {
			at = i
		}
	}
	return at
}

// spread is a text with just so many of each byte, from the byte first on, every step-th.
func spread(first, step int, counts ...int) string {
	s := ""
	for i, n := range counts {
		s += strings.Repeat(string([]byte{byte(first + i*step)}), n)
	}
	return s
}

// weighed lists texts whose bytes have weights of many kinds: alike, doubling, growing as slowly as makes the longest codes.
func weighed() []string {
	var l []string
	for n := 1; n <= 256; n += 1 + n/9 {
		three := spread(255, -1, slices.Repeat([]int{3}, n)...)
		l = append(l, spread(0, 1, slices.Repeat([]int{1}, n)...), three)
	}
	fib := []int{1, 1, 2, 3, 5, 8, 13, 21, 34, 55, 89, 144, 233, 377}
	for n := range len(fib) + 1 {
		l = append(l, spread('a', 1, fib[:n]...), spread(250, -7, fib[:n]...))
	}
	l = append(l, spread(3, 5, 1, 2, 4, 8, 16, 32, 64, 128, 256), spread(200, -20, 1, 1, 2, 4, 8, 16, 32, 64, 128, 256))
	r := rand.New(rand.NewSource(6))
	for range 400 {
		counts := make([]int, 1+r.Intn(40))
		for i := range counts {
			counts[i] = r.Intn(1 + r.Intn(25))
		}
		l = append(l, spread(r.Intn(256), 1+2*r.Intn(128), counts...))
	}
	return l
}

func TestP6CodesAreThoseOfTheTrees(t *testing.T) {
	for _, s := range append(append(shortTexts(), longTexts()...), weighed()...) {
		if len(s) > api.MaxText {
			t.Fatalf("a text of %d bytes", len(s))
		}
		want := plainCodes(s)
		bits := 0
		for i := range len(s) {
			bits += len(want[s[i]])
		}
		l, n, e := concord.Codes(s)
		if e != api.OK || n != bits || !slices.Equal(l, want[:]) {
			t.Fatalf("P6: Codes(%.60q) = %q, %d, %d, want %q, %d", s, l, n, e, want, bits)
		}
	}
}

func TestP6Examples(t *testing.T) {
	for _, c := range []struct {
		text  string
		bits  int
		codes map[int]string
	}{
		{"", 0, nil},
		{"aab", 3, map[int]string{'b': "0", 'a': "1"}},
		{"abc", 5, map[int]string{'c': "0", 'a': "10", 'b': "11"}},
		{"aaaa", 4, map[int]string{'a': "0"}},
		{"\xff", 1, map[int]string{255: "0"}},
		{"\x00\x00", 2, map[int]string{0: "0"}},
	} {
		l, n, e := concord.Codes(c.text)
		if e != api.OK || n != c.bits || len(l) != 256 {
			t.Errorf("P6: Codes(%q): %d texts, %d, %d", c.text, len(l), n, e)
			continue
		}
		for b, code := range l {
			if code != c.codes[b] {
				t.Errorf("P6: Codes(%q): of %d %q, want %q", c.text, b, code, c.codes[b])
			}
		}
	}
}

func TestP6LongTextsAreRefused(t *testing.T) {
	if l, n, e := concord.Codes(strings.Repeat("a", api.MaxText)); len(l) != 256 || l['a'] != "0" || n != api.MaxText || e != api.OK {
		t.Errorf("P6: Codes of MaxText bytes: %d texts, %d, %d", len(l), n, e)
	}
	for _, n := range []int{api.MaxText + 1, 100 * api.MaxText} {
		if l, bits, e := concord.Codes(strings.Repeat("ab", n)[:n]); l != nil || bits != 0 || e != api.ErrLong {
			t.Errorf("P6: Codes of %d bytes: %d texts, %d, %d", n, len(l), bits, e)
		}
	}
}

// No code begins another, so what is laid in them can be read in one way: byte by byte, from the front.
func TestP12CodesCanBeRead(t *testing.T) {
	for _, s := range append(longTexts(), weighed()...) {
		l, n, _ := concord.Codes(s)
		for a, x := range l {
			for b, y := range l {
				if a != b && x != "" && y != "" && strings.HasPrefix(y, x) {
					t.Fatalf("P12: Codes(%.60q): %q begins %q", s, x, y)
				}
			}
		}
		var laid strings.Builder
		for i := range len(s) {
			laid.WriteString(l[s[i]])
		}
		if laid.Len() != n {
			t.Errorf("P12: Codes(%.60q) tells %d bits, of %d", s, n, laid.Len())
		}
		if u := readBack(laid.String(), l); u != s {
			t.Errorf("P12: what Codes(%.60q) lays reads %.60q", s, u)
		}
	}
}

// readBack reads bits by codes, the first code that fits each time.
func readBack(bits string, l []string) string {
	bytes := map[string]byte{}
	for c, code := range l {
		if code != "" {
			bytes[code] = byte(c)
		}
	}
	var text strings.Builder
	from := 0
	for to := range len(bits) + 1 {
		if c, ok := bytes[bits[from:to]]; ok {
			text.WriteByte(c)
			from = to
		}
	}
	return text.String()
}

// fewestBits tries all sizes that codes of which none begins another can have: those whose
// shares of the room that is left (a code of n bits takes 1/2^n of the whole) fit into it.
func fewestBits(counts []int, room, whole int) int {
	if len(counts) == 0 {
		return 0
	}
	fewest := 1 << 30
	for size := 1; whole>>size > 0; size++ {
		if share := whole >> size; share <= room {
			fewest = min(fewest, counts[0]*size+fewestBits(counts[1:], room-share, whole))
		}
	}
	return fewest
}

func TestP12NoOtherCodesHaveFewerBits(t *testing.T) {
	for letters := range 6 {
		counts := make([]int, letters)
		for number := range pow(4, letters) {
			for i := range counts {
				counts[i] = []int{1, 2, 3, 7}[number/pow(4, i)%4]
			}
			s := spread('a', 1, counts...)
			want := fewestBits(counts, 1<<5, 1<<5)
			if _, n, _ := concord.Codes(s); n != want {
				t.Fatalf("P12: Codes(%q): %d bits, where %d are enough", s, n, want)
			}
		}
	}
}

func pow(a, n int) int {
	p := 1
	for range n {
		p *= a
	}
	return p
}

// Whoever changes the texts that came out, their spare room too, changes no other answer.
func TestP2CodesAreNewMemory(t *testing.T) {
	for _, s := range []string{"", "a", "abc", "abracadabra"} {
		want := plainCodes(s)
		first, _, _ := concord.Codes(s)
		second, _, _ := concord.Codes(s)
		whole := first[:cap(first)]
		for i := range whole {
			whole[i] = "other"
		}
		third, _, _ := concord.Codes(s)
		if !slices.Equal(second, want[:]) || !slices.Equal(third, want[:]) {
			t.Errorf("P2: Codes(%q) after a change = %q, %q", s, second, third)
		}
	}
}
