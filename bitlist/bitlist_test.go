package bitlist

import (
	"slices"
	"strings"
	"testing"
)

// textOf asks a list for all its bits.
func textOf(l *List) string {
	var b strings.Builder
	for i := range l.Size() {
		b.WriteByte('0' + byte(l.Rank(i+1)-l.Rank(i)))
	}
	return b.String()
}

// Whether runs are laid one by one or many at a time, the list is the same.
func TestLayOneOrMany(t *testing.T) {
	runs := []Run{{0, 0}, {1, 1}, {1, 0}, {3, 1}, {64, 1<<63 | 1}, {64, 0}, {13, 0x1555}, {0, 0}, {5, 0}, {64, 1<<64 - 1}, {2, 2}}
	want := ""
	for _, r := range runs {
		want += r.Text()
	}
	var one, many, some List
	for _, r := range runs {
		one.Lay(r)
	}
	many.Lay(runs...)
	some.Lay()
	some.Lay(runs[:3]...)
	some.Lay(runs[3:]...)
	for _, l := range []*List{&one, &many, &some} {
		if got := textOf(l); got != want || l.Ones() != strings.Count(want, "1") {
			t.Errorf("laid %q, %d ones, want %q", got, l.Ones(), want)
		}
	}
}

func TestRunText(t *testing.T) {
	for _, c := range []struct {
		run  Run
		want string
	}{{Run{}, ""}, {Run{1, 0}, "0"}, {Run{1, 1}, "1"}, {Run{3, 1}, "001"}, {Run{3, 6}, "110"}, {Run{64, 1}, strings.Repeat("0", 63) + "1"}, {Run{}.With(1).With(0), "10"}} {
		if got := c.run.Text(); got != c.want {
			t.Errorf("Text of %v = %q, want %q", c.run, got, c.want)
		}
	}
}

func TestRead(t *testing.T) {
	for n := range 200 {
		want := strings.Repeat("0110100", n)[:n]
		runs, ok := Read(want)
		got := ""
		for _, r := range runs {
			got += r.Text()
		}
		if !ok || got != want {
			t.Errorf("Read(%q) = %q, %v", want, got, ok)
		}
	}
	for _, s := range []string{"2", "/", strings.Repeat("1", 64) + "a", "0\x00"} {
		if runs, ok := Read(s); ok || runs != nil {
			t.Errorf("Read(%q) = %v, %v", s, runs, ok)
		}
	}
}

// listOf lays a text of noughts and ones.
func listOf(text string) *List {
	runs, _ := Read(text)
	l := &List{}
	l.Lay(runs...)
	return l
}

func TestBitAndRankOf(t *testing.T) {
	text := strings.Repeat("0110100", 40)
	l := listOf(text)
	for i := range len(text) {
		if got := l.Bit(i); got != uint64(text[i]-'0') {
			t.Errorf("Bit(%d) = %d", i, got)
		}
	}
	for i := range len(text) + 1 {
		noughts, ones := strings.Count(text[:i], "0"), strings.Count(text[:i], "1")
		if l.RankOf(0, i) != noughts || l.RankOf(1, i) != ones {
			t.Errorf("RankOf at %d = %d, %d, want %d, %d", i, l.RankOf(0, i), l.RankOf(1, i), noughts, ones)
		}
	}
}

func TestAmong(t *testing.T) {
	l := listOf("0110100")
	for _, c := range []struct {
		bit    uint64
		ranges []Range
		want   []Range
	}{
		{1, nil, nil},
		{1, []Range{{0, 7}}, []Range{{0, 3}}},
		{0, []Range{{0, 7}}, []Range{{0, 4}}},
		{1, []Range{{0, 1}, {3, 4}, {7, 7}}, nil},
		{0, []Range{{1, 3}, {4, 4}}, nil},
		{1, []Range{{1, 2}, {4, 7}}, []Range{{0, 1}, {2, 3}}},
		{1, []Range{{1, 2}, {2, 3}, {4, 5}}, []Range{{0, 3}}}, // just a nought between the second and the third
		{0, []Range{{0, 1}, {3, 5}, {6, 7}}, []Range{{0, 2}, {3, 4}}},
		{0, []Range{{6, 7}, {0, 1}}, []Range{{3, 4}, {0, 1}}},
	} {
		given := slices.Clone(c.ranges)
		if got := l.Among(c.bit, c.ranges...); !slices.Equal(got, c.want) || !slices.Equal(c.ranges, given) {
			t.Errorf("Among(%d, %v) = %v, want %v", c.bit, given, got, c.want)
		}
	}
}

func TestBytes(t *testing.T) {
	for _, c := range []struct{ text, want string }{
		{"", ""},
		{"0", "\x00"},
		{"1", "\x80"},
		{"00000001", "\x01"},
		{"000000011", "\x01\x80"},
		{strings.Repeat("0", 63) + "1", "\x00\x00\x00\x00\x00\x00\x00\x01"},
		{strings.Repeat("0", 63) + "11", "\x00\x00\x00\x00\x00\x00\x00\x01\x80"},
		{strings.Repeat("01101001", 20), strings.Repeat("\x69", 20)},
	} {
		if got := listOf(c.text).Bytes(); string(got) != c.want {
			t.Errorf("Bytes of %q = %q, want %q", c.text, got, c.want)
		}
	}
}
