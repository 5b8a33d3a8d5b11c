package concord_test

import (
	"math"
	"math/rand"
	"strings"
	"sync"
	"testing"

	"concord/api"
	"concord/concord"
)

// bitTexts lists all short texts of noughts and ones, and longer ones about the sizes of machine words.
func bitTexts() []string {
	var l []string
	for n := range 11 {
		l = append(l, wordsOf("01", n)...)
	}
	r := rand.New(rand.NewSource(5))
	for _, n := range []int{31, 32, 33, 63, 64, 65, 127, 128, 129, 191, 192, 193, 700} {
		l = append(l, strings.Repeat("0", n), strings.Repeat("1", n), strings.Repeat("01", n)[:n])
		l = append(l, "1"+strings.Repeat("0", n-1), strings.Repeat("0", n-1)+"1", strings.Repeat("0", n-1)+"11")
		for _, ones := range []int{1, 2, 32, 63} {
			b := make([]byte, n)
			for i := range b {
				b[i] = '0'
				if r.Intn(64) < ones {
					b[i] = '1'
				}
			}
			l = append(l, string(b))
		}
	}
	return l
}

// checkBits asks for each rank and each place of a one, and for some that are none.
func checkBits(t *testing.T, s string) {
	t.Helper()
	b, e := concord.NewBits(s)
	if b == nil || e != api.OK {
		t.Fatalf("P5: NewBits(%.60q): %v, %d", s, b != nil, e)
	}
	ones := 0
	for i := range len(s) + 1 {
		if k, e := b.Rank(i); k != ones || e != api.OK {
			t.Fatalf("P5: Rank(%d) of %.60q = %d, %d, want %d", i, s, k, e, ones)
		}
		if i == len(s) || s[i] != '1' {
			continue
		}
		if place, e := b.Select(ones); place != i || e != api.OK {
			t.Fatalf("P5: Select(%d) of %.60q = %d, %d, want %d", ones, s, place, e, i)
		}
		ones++
	}
	for _, i := range []int{math.MinInt, -len(s) - 1, -64, -1, len(s) + 1, len(s) + 64, math.MaxInt32 + 1, math.MaxInt} {
		if k, e := b.Rank(i); k != 0 || e != api.ErrRange {
			t.Fatalf("P5: Rank(%d) of %.60q = %d, %d", i, s, k, e)
		}
	}
	for _, k := range []int{math.MinInt, -64, -1, ones, ones + 1, len(s) + 64, math.MaxInt32 + 1, math.MaxInt} {
		if place, e := b.Select(k); place != 0 || e != api.ErrRange {
			t.Fatalf("P5: Select(%d) of %.60q = %d, %d", k, s, place, e)
		}
	}
}

func TestP5RankAndSelect(t *testing.T) {
	for _, s := range bitTexts() {
		checkBits(t, s)
	}
}

// Bits are no text: MaxText does not bound them.
func TestP5MoreBitsThanATextHas(t *testing.T) {
	for _, n := range []int{api.MaxText, api.MaxText + 1, 64 * 1024, 100001} {
		checkBits(t, strings.Repeat("0110001", n)[:n])
	}
}

func TestP5OtherBytesAreRefused(t *testing.T) {
	for _, around := range []string{"", "0", "1", strings.Repeat("01", 32), strings.Repeat("1", api.MaxText+1)} {
		for c := range 256 {
			if c == '0' || c == '1' {
				continue
			}
			odd := string([]byte{byte(c)})
			for _, s := range []string{odd, odd + around, around + odd, around + odd + around} {
				if b, e := concord.NewBits(s); b != nil || e != api.ErrForm {
					t.Fatalf("P5: NewBits(%.80q): %v, %d", s, b != nil, e)
				}
			}
		}
	}
}

func TestP1NoBitsDoNotPanic(t *testing.T) {
	b, _ := concord.NewBits("2")
	for _, i := range []int{-1, 0, 1} {
		if k, e := b.Rank(i); k != 0 || e != api.ErrRange {
			t.Errorf("P1: Rank(%d) of no bits = %d, %d", i, k, e)
		}
		if k, e := b.Select(i); k != 0 || e != api.ErrRange {
			t.Errorf("P1: Select(%d) of no bits = %d, %d", i, k, e)
		}
	}
}

// Bits answer by themselves alone, whatever other bits are made and asked beside them.
func TestP2BitsHangOnNothingElse(t *testing.T) {
	texts := []string{"", "1", "0", strings.Repeat("01", 100), strings.Repeat("1", 64), strings.Repeat("0", 130) + "1"}
	shared, _ := concord.NewBits("0110")
	var workers sync.WaitGroup
	for range 4 {
		workers.Add(1)
		go func() {
			defer workers.Done()
			for _, s := range texts {
				b, _ := concord.NewBits(s)
				k, _ := b.Rank(len(s))
				if k != strings.Count(s, "1") {
					t.Errorf("P2: Rank(%d) of %.60q = %d", len(s), s, k)
				}
				k, _ = shared.Rank(3)
				place, _ := shared.Select(1)
				if k != 2 || place != 2 {
					t.Errorf("P2: Rank(3), Select(1) of 0110 = %d, %d", k, place)
				}
			}
		}()
	}
	workers.Wait()
}
