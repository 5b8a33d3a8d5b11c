package concord_test

import (
	"hash/crc32"
	"math/rand"
	"slices"
	"strconv"
	"strings"
	"sync"
	"testing"

	"concord/api"
	"concord/concord"
)

// two gives a number in two bytes.
func two(n int) string { return string([]byte{byte(n / 256), byte(n % 256)}) }

// summed gives bytes with their sum behind them, by the library's own CRC-32.
func summed(s string) string {
	n := crc32.ChecksumIEEE([]byte(s))
	return s + two(int(n>>16)) + two(int(n&0xffff))
}

// mended gives bytes with their last four made the sum of the others.
func mended(d string) string { return summed(d[:len(d)-4]) }

// flagsOf gives the 32 bytes that tell which bytes are in a text.
func flagsOf(s string) string {
	flags := make([]byte, 32)
	for i := range len(s) {
		flags[s[i]/8] |= 1 << (s[i] % 8)
	}
	return string(flags)
}

// bytesOf writes a text of noughts and ones, eight a byte.
func bytesOf(bits string) string {
	bits += strings.Repeat("0", 7)
	var b []byte
	for ; len(bits) >= 8; bits = bits[8:] {
		n, _ := strconv.ParseUint(bits[:8], 2, 8)
		b = append(b, byte(n))
	}
	return string(b)
}

// plainMarshal writes an index as the document says it.
func plainMarshal(s string, rate int) string {
	turned, row := plainTransform(s)
	codes := plainCodes(s)
	d := "C" + two(rate) + two(len(s)) + two(row) + flagsOf(s)
	for c := range 256 {
		if n := strings.Count(s, string([]byte{byte(c)})); n > 0 {
			d += two(n)
		}
	}
	var bits strings.Builder
	for i := range len(turned) {
		bits.WriteString(codes[turned[i]])
	}
	return summed(d + bytesOf(bits.String()))
}

// arranged lists all texts that have just so many of each letter.
func arranged(letters string, counts []int) []string {
	var l []string
	for i, n := range counts {
		if n == 0 {
			continue
		}
		fewer := slices.Clone(counts)
		fewer[i]--
		for _, s := range arranged(letters, fewer) {
			l = append(l, letters[i:i+1]+s)
		}
	}
	if l == nil {
		return []string{""}
	}
	return l
}

// isMarshal tells whether any text and rate is written d, by writing all texts whose
// bytes are there as often as d says. It is for few bytes: it takes a text of more than 6 for none.
func isMarshal(d string) bool {
	if len(d) < 43 {
		return false
	}
	number := func(at int) int { return int(d[at])*256 + int(d[at+1]) }
	rate, size := number(1), number(3)
	letters := ""
	var counts []int
	total := 0
	for c := range 256 {
		if d[7+c/8]>>(c%8)&1 == 0 {
			continue
		}
		at := 39 + 2*len(letters)
		if at+2 > len(d) {
			return false
		}
		letters += string([]byte{byte(c)})
		counts = append(counts, number(at))
		total += number(at)
	}
	if rate < 1 || rate > api.MaxRate || total != size || size > 6 || slices.Contains(counts, 0) {
		return false
	}
	for _, s := range arranged(letters, counts) {
		if plainMarshal(s, rate) == d {
			return true
		}
	}
	return false
}

// checkTaken asks for an index of bytes that are one.
func checkTaken(t *testing.T, d string) *concord.Index {
	t.Helper()
	x, e := concord.Unmarshal(d)
	if x == nil || e != api.OK {
		t.Fatalf("P11: Unmarshal(%.120q): %v, %d", d, x != nil, e)
	}
	if again := x.Marshal(); again != d {
		t.Fatalf("P12: Unmarshal took %.120q, Marshal gives %.120q", d, again)
	}
	return x
}

// checkRefused asks for an index of bytes that are none.
func checkRefused(t *testing.T, what, d string) {
	t.Helper()
	if x, e := concord.Unmarshal(d); x != nil || e != api.ErrForm {
		t.Fatalf("P11: Unmarshal of %s, %.120q: %v, %d", what, d, x != nil, e)
	}
}

// checkRead asks for an index of bytes that may be one or none.
func checkRead(t *testing.T, what, d string) {
	t.Helper()
	if isMarshal(d) {
		checkTaken(t, d)
	} else {
		checkRefused(t, what, d)
	}
}

func TestP10Examples(t *testing.T) {
	for _, c := range []struct {
		text string
		rate int
		want string
	}{
		{"", 1, "C\x00\x01\x00\x00\x00\x00" + strings.Repeat("\x00", 32) + "\x1d\x43\x43\x9c"},
		{"", 64, summed("C\x00\x40\x00\x00\x00\x00" + strings.Repeat("\x00", 32))},
		{"\x00", 2, summed("C\x00\x02\x00\x01\x00\x01\x01" + strings.Repeat("\x00", 31) + "\x00\x01\x00")},
		{"\xff", 2, summed("C\x00\x02\x00\x01\x00\x01" + strings.Repeat("\x00", 31) + "\x80\x00\x01\x00")},
		{"\x08\x07\x08", 3, summed("C\x00\x03\x00\x03\x00\x03\x80\x01" + strings.Repeat("\x00", 30) + "\x00\x01\x00\x02\xc0")},                        // turned 8 8 7: 1 1 0
		{"aaaaaaaa", 4, summed("C\x00\x04\x00\x08\x00\x08" + strings.Repeat("\x00", 12) + "\x02" + strings.Repeat("\x00", 19) + "\x00\x08\x00")},      // eight bits, and none behind
		{"aaaaaaaaa", 4, summed("C\x00\x04\x00\x09\x00\x09" + strings.Repeat("\x00", 12) + "\x02" + strings.Repeat("\x00", 19) + "\x00\x09\x00\x00")}, // nine bits, and seven behind
		{"abab", 2, summed("C\x00\x02\x00\x04\x00\x02" + strings.Repeat("\x00", 12) + "\x06" + strings.Repeat("\x00", 19) + "\x00\x02\x00\x02\xc0")},
	} {
		if d := build(t, c.text, c.rate).Marshal(); d != c.want {
			t.Errorf("P10: Marshal of %q, %d = %q, want %q", c.text, c.rate, d, c.want)
		}
	}
}

func TestP10MarshalWritesAllParts(t *testing.T) {
	for i, s := range append(append(shortTexts(), longTexts()...), weighed()...) {
		rate := 1 + i%api.MaxRate
		if d, want := build(t, s, rate).Marshal(), plainMarshal(s, rate); d != want {
			t.Fatalf("P10: Marshal of %.60q, %d = %.120q, want %.120q", s, rate, d, want)
		}
	}
}

func TestP10EveryRate(t *testing.T) {
	for _, s := range []string{"", "a", "abracadabra", fibonacci(api.MaxText)} {
		for rate := 1; rate <= api.MaxRate; rate++ {
			if d, want := build(t, s, rate).Marshal(), plainMarshal(s, rate); d != want {
				t.Fatalf("P10: Marshal of %.60q, %d = %.120q, want %.120q", s, rate, d, want)
			}
		}
	}
}

// What was read answers as what was written: its words, its pieces, and its bytes.
func TestP12WhatIsReadAnswersAlike(t *testing.T) {
	r := rand.New(rand.NewSource(12))
	for _, s := range append(append(wordsOf("\x00a\xff", 5), longTexts()...), "", "a", "mississippi", "abracadabra") {
		rate := 1 + r.Intn(api.MaxRate)
		x := checkTaken(t, build(t, s, rate).Marshal())
		if x.Len() != len(s) {
			t.Fatalf("P12: Len() of %.60q, read = %d", s, x.Len())
		}
		checkPiece(t, x, s, 0, len(s))
		checkNoPiece(t, x, 0, len(s)+1)
		checkNoPiece(t, x, -1, 0)
		for range 5 {
			a := r.Intn(len(s) + 1)
			b := a + r.Intn(min(5, len(s)-a)+1)
			checkPiece(t, x, s, a, b)
			checkWord(t, x, s, s[a:b])
			checkWord(t, x, s, s[a:b]+"k")
		}
	}
}

// All short texts, and texts with codes of many sizes, are read.
func TestP11WhatMarshalGivesIsTaken(t *testing.T) {
	for i, s := range append(shortTexts(), weighed()...) {
		x := checkTaken(t, plainMarshal(s, 1+i%api.MaxRate))
		checkPiece(t, x, s, 0, len(s))
	}
}

// shortRecords writes some texts that isMarshal is for.
func shortRecords() []string {
	var l []string
	for i, s := range []string{"", "a", "\x00", "\xff", "aa", "ab", "ba", "\x00\xff", "abab", "aabb", "bbba", "\x00a\xff", "caba", "babab", "abcab", "abcde"} {
		l = append(l, plainMarshal(s, []int{1, 2, 3, api.MaxRate}[i%4]))
	}
	return l
}

// with gives bytes with those from a place on made others.
func with(d string, at int, others string) string { return d[:at] + others + d[at+len(others):] }

func TestP12NoneWithOneByteTurnedIsTaken(t *testing.T) {
	for _, d := range shortRecords() {
		for at := range len(d) {
			for turn := 1; turn < 256; turn++ {
				checkRefused(t, "one byte turned", with(d, at, string([]byte{d[at] ^ byte(turn)})))
			}
		}
	}
	r := rand.New(rand.NewSource(13))
	for _, s := range longTexts() {
		d := plainMarshal(s, 1+r.Intn(api.MaxRate))
		for at := 0; at < len(d); at += 1 + r.Intn(20) {
			checkRefused(t, "one byte turned", with(d, at, string([]byte{d[at] ^ byte(1+r.Intn(255))})))
		}
	}
}

// One byte turned, and the sum made right again: what is then that of another text or rate is taken, nothing else.
func TestP11OneByteTurnedAndTheSumMended(t *testing.T) {
	for _, d := range shortRecords() {
		for at := range len(d) - 4 {
			for turn := 1; turn < 256; turn++ {
				checkRead(t, "one byte turned, with its sum", mended(with(d, at, string([]byte{d[at] ^ byte(turn)}))))
			}
		}
	}
}

// All rows, with all bits of the codes: what no text is turned is refused.
func TestP11AllRowsAndCodes(t *testing.T) {
	for _, s := range []string{"a", "ab", "aab", "abc", "abab", "abca", "aabbb", "abbca"} {
		d := plainMarshal(s, 3)
		for row := range len(s) + 3 {
			for codes := range 256 {
				other := with(d, 5, two(row))
				checkRead(t, "other rows and codes", mended(with(other, len(d)-5, string([]byte{byte(codes)}))))
			}
		}
	}
}

// All counts up to some more than there are bytes.
func TestP11AllCounts(t *testing.T) {
	for _, s := range []string{"a", "ab", "aab", "abab", "abc"} {
		d := plainMarshal(s, 3)
		for size := range len(s) + 2 {
			for a := range len(s) + 2 {
				for b := range len(s) + 2 {
					other := with(with(d, 3, two(size)), 39, two(a))
					if len(d) > 43+2+1 {
						other = with(other, 41, two(b))
					}
					checkRead(t, "other counts", mended(other))
				}
			}
		}
	}
}

// Bytes left out at the end or put behind, with a sum of the rest and without.
func TestP11CutAndLengthened(t *testing.T) {
	for _, d := range append(shortRecords(), plainMarshal("abracadabra", 5), plainMarshal(fibonacci(300), 5)) {
		body := d[:len(d)-4]
		for n := range len(d) {
			checkRefused(t, "cut bytes", d[:n])
			checkRefused(t, "bytes without the first ones", d[len(d)-n:])
			if n < len(body) {
				checkRefused(t, "cut bytes with their sum", summed(body[:n]))
				checkRefused(t, "bytes without one of them", summed(body[:n]+body[n+1:]))
				checkRefused(t, "bytes with one of them twice", summed(body[:n+1]+body[n:]))
			}
		}
		for _, more := range []string{"\x00", "\x01", "\x00\x00", "\xff", d, strings.Repeat("\x00", 2000)} {
			checkRefused(t, "bytes with more behind", d+more)
			checkRefused(t, "bytes with more ahead", more+d)
			checkRefused(t, "bytes with more ahead of the sum", summed(body+more))
			checkRefused(t, "a sum of a sum", summed(d+more))
		}
	}
}

// A byte that is marked as there, but is not: nought times, or not in the codes.
func TestP11BytesThatAreNotThere(t *testing.T) {
	d := plainMarshal("abab", 2)
	for _, counts := range []string{"\x00\x02\x00\x02\x00\x00", "\x00\x00\x00\x02\x00\x02", "\x00\x02\x00\x01\x00\x01", "\x00\x01\x00\x02\x00\x01"} {
		for codes := range 256 {
			checkRead(t, "a byte that is not there", summed(d[:7]+flagsOf("abc")+counts+string([]byte{byte(codes)})))
		}
	}
	checkRefused(t, "flags alone", summed("C\x00\x01\x00\x00\x00\x00"+strings.Repeat("\xff", 32)))
	checkRefused(t, "flags with no counts but noughts", summed("C\x00\x01\x00\x00\x00\x00"+strings.Repeat("\xff", 32)+strings.Repeat("\x00", 512)))
	checkRefused(t, "an empty text with a byte", summed("C\x00\x01\x00\x00\x00\x00"+flagsOf("a")+"\x00\x00"))
	checkRefused(t, "an empty text with a row", summed("C\x00\x01\x00\x00\x00\x01"+strings.Repeat("\x00", 32)))
	checkRefused(t, "a length without bytes", summed("C\x00\x01\x00\x01\x00\x00"+strings.Repeat("\x00", 32)))
	checkRefused(t, "a length without bytes, with bits", summed("C\x00\x01\x00\x01\x00\x00"+strings.Repeat("\x00", 33)))
}

// Bits behind the codes are noughts, in each of their places.
func TestP11BitsBehindTheCodes(t *testing.T) {
	for n := 1; n < 20; n++ {
		d := plainMarshal(strings.Repeat("a", n), 1)
		checkTaken(t, d)
		for bit := range 8 {
			other := with(d, len(d)-5, string([]byte{1 << bit}))
			checkRefused(t, "a one behind the codes", mended(other))
		}
	}
	d := plainMarshal("abracadabra", 1)
	last := len(d) - 5 // 23 bits
	checkRefused(t, "a one behind the codes", mended(with(d, last, string([]byte{d[last] | 1}))))
}

func TestP11LengthsAndRatesAtTheBounds(t *testing.T) {
	like := func(n, rate int) string {
		return summed("C" + two(rate) + two(n) + two(n) + flagsOf("a") + two(n) + strings.Repeat("\x00", (n+7)/8))
	}
	for _, rate := range []int{1, 2, api.MaxRate - 1, api.MaxRate} {
		for _, n := range []int{1, 255, 256, 257, api.MaxText - 1, api.MaxText} {
			checkPiece(t, checkTaken(t, like(n, rate)), strings.Repeat("a", n), 0, n)
		}
		for _, n := range []int{api.MaxText + 1, 1024, 1256, 2000, 4000, 65535} {
			checkRefused(t, "a long text", like(n, rate))
		}
	}
	for _, rate := range []int{0, api.MaxRate + 1, 128, 255, 256, 257, 256 + api.MaxRate, 65535} {
		for _, n := range []int{1, api.MaxText} {
			checkRefused(t, "another rate", like(n, rate))
		}
	}
	d := plainMarshal("ab", 1)
	checkRefused(t, "a row beyond", mended(with(d, 5, "\x00\x03")))
	checkRefused(t, "a row far beyond", mended(with(d, 5, "\xff\xff")))
	checkRefused(t, "a row that is right but for its first byte", mended(with(d, 5, "\x01"+d[6:7])))
}

// The longest that Marshal gives are taken: all bytes, of which none is much more frequent.
func TestP11TheLongest(t *testing.T) {
	for _, n := range []int{256, 512, 768, 999, api.MaxText} {
		var b []byte
		for i := range n {
			b = append(b, byte(i*77))
		}
		d := build(t, string(b), 9).Marshal()
		if d != plainMarshal(string(b), 9) {
			t.Errorf("P10: Marshal of all bytes, %d in all = %.120q", n, d)
		}
		checkPiece(t, checkTaken(t, d), string(b), 0, n)
	}
}

func TestP1NoBytesPanic(t *testing.T) {
	for _, d := range []string{"", "C", "\x00", summed(""), summed("C"), strings.Repeat("C", 43), strings.Repeat("\xff", 100000), strings.Repeat("\x00", 1<<25), summed(strings.Repeat("C", 1<<22))} {
		checkRefused(t, "any bytes", d)
	}
	r := rand.New(rand.NewSource(14))
	for range 5000 {
		b := make([]byte, r.Intn(100))
		r.Read(b)
		checkRefused(t, "random bytes", summed("C"+string(b)))
	}
	for range 5000 {
		b := make([]byte, 32)
		for range r.Intn(4) {
			b[r.Intn(32)] |= 1 << r.Intn(8)
		}
		tail := make([]byte, r.Intn(12))
		for i := range tail {
			tail[i] = byte(r.Intn(256) * r.Intn(2))
		}
		checkRead(t, "nearly right bytes", summed("C\x00\x01"+two(r.Intn(4))+two(r.Intn(4))+string(b)+string(tail)))
	}
}

// Records of long texts in which some bytes are made others: what is taken is what Marshal gives again.
func TestP12WhatIsTakenIsGivenAgain(t *testing.T) {
	r := rand.New(rand.NewSource(15))
	for _, s := range longTexts() {
		d := plainMarshal(s, 1+r.Intn(api.MaxRate))
		for range 30 {
			other := []byte(d)
			for range 1 + r.Intn(3) {
				other[r.Intn(len(d)-4)] ^= 1 << r.Intn(8)
			}
			o := mended(string(other))
			x, e := concord.Unmarshal(o)
			if e == api.ErrForm && x == nil {
				continue
			}
			u, _ := checkTaken(t, o).Extract(0, x.Len())
			if plainMarshal(u, int(o[2])) != o {
				t.Fatalf("P11: Unmarshal took %.120q for %.60q", o, u)
			}
		}
	}
}

func TestP1MarshalOfNoIndex(t *testing.T) {
	none, _ := concord.Unmarshal("")
	for _, x := range []*concord.Index{none, {}} {
		if d := x.Marshal(); d != "" {
			t.Errorf("P1: Marshal of no index = %q", d)
		}
	}
}

// What is written and read hangs on nothing that is asked beside or between.
func TestP2RecordsHangOnNothingElse(t *testing.T) {
	texts := append([]string{"", "a", "abab"}, longTexts()...)
	shared := build(t, "abracadabra", 4)
	want := plainMarshal("abracadabra", 4)
	var workers sync.WaitGroup
	for worker := range 4 {
		workers.Add(1)
		go func() {
			defer workers.Done()
			for i := range texts {
				s := texts[(i+worker*7)%len(texts)]
				x, _ := concord.Build(s, 1+i)
				y, e := concord.Unmarshal(x.Marshal())
				if e != api.OK || y.Marshal() != x.Marshal() {
					t.Errorf("P2: Unmarshal of the Marshal of %.60q: %d", s, e)
				}
				if shared.Marshal() != want || !slices.Equal(shared.Locate("a"), []int{0, 3, 5, 7, 10}) {
					t.Errorf("P2: Marshal of an index that others ask = %q", shared.Marshal())
				}
			}
		}()
	}
	workers.Wait()
}
