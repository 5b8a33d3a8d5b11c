package codes

import (
	"testing"

	"concord/bitlist"
)

func TestCount(t *testing.T) {
	counts := Count("\x00abba\xff\xffa")
	for c, n := range counts {
		want := map[int]int{0: 1, 'a': 3, 'b': 2, 255: 2}[c]
		if n != want {
			t.Errorf("of %d %d, want %d", c, n, want)
		}
	}
}

func TestOfNothing(t *testing.T) {
	if Of([256]int{}) != [256]bitlist.Run{} {
		t.Error("a byte that is not there has a code")
	}
}

func TestOfOneByteAlone(t *testing.T) {
	for c := range 256 {
		var counts [256]int
		counts[c] = 1 + c
		var want [256]bitlist.Run
		want[c] = bitlist.Run{Size: 1}
		if Of(counts) != want {
			t.Errorf("the codes of %d alone are %v", c, Of(counts))
		}
	}
}

// The weights that make the longest codes: each tree is as heavy as all lighter ones, or nearly.
func TestOfLongestCodes(t *testing.T) {
	var counts [256]int
	a, b, sum := 1, 1, 0
	letters := 0
	for ; sum+a <= 1000; letters++ {
		counts[letters] = a
		sum += a
		a, b = b, a+b
	}
	longest := 0
	for _, code := range Of(counts) {
		longest = max(longest, code.Size)
	}
	if longest != letters-1 {
		t.Errorf("the longest code of %d bytes has %d bits", letters, longest)
	}
}

func TestBytes(t *testing.T) {
	made := Of(Count("\x00abba\xff\xffa"))
	bytes := Bytes(made)
	if len(bytes) != 4 {
		t.Errorf("%d bytes have a code", len(bytes))
	}
	for _, c := range []byte("\x00ab\xff") {
		if got, ok := bytes[made[c]]; !ok || got != c {
			t.Errorf("the code of %d is that of %d, %v", c, got, ok)
		}
	}
}
