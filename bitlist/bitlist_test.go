package bitlist

import (
	"strings"
	"testing"
)

// textOf asks a list for all its bits.
func textOf(l *List) string {
	var b strings.Builder
	for i := range l.Size() {
		b.WriteByte('0' + byte(l.Rank(i+1)-l.Rank(i)))
	}
	return b.String()
}

// Whether runs are laid one by one or many at a time, the list is the same.
func TestLayOneOrMany(t *testing.T) {
	runs := []Run{{0, 0}, {1, 1}, {1, 0}, {3, 1}, {64, 1<<63 | 1}, {64, 0}, {13, 0x1555}, {0, 0}, {5, 0}, {64, 1<<64 - 1}, {2, 2}}
	want := ""
	for _, r := range runs {
		want += r.Text()
	}
	var one, many, some List
	for _, r := range runs {
		one.Lay(r)
	}
	many.Lay(runs...)
	some.Lay()
	some.Lay(runs[:3]...)
	some.Lay(runs[3:]...)
	for _, l := range []*List{&one, &many, &some} {
		if got := textOf(l); got != want || l.Ones() != strings.Count(want, "1") {
			t.Errorf("laid %q, %d ones, want %q", got, l.Ones(), want)
		}
	}
}

func TestRunText(t *testing.T) {
	for _, c := range []struct {
		run  Run
		want string
	}{{Run{}, ""}, {Run{1, 0}, "0"}, {Run{1, 1}, "1"}, {Run{3, 1}, "001"}, {Run{3, 6}, "110"}, {Run{64, 1}, strings.Repeat("0", 63) + "1"}, {Run{}.With(1).With(0), "10"}} {
		if got := c.run.Text(); got != c.want {
			t.Errorf("Text of %v = %q, want %q", c.run, got, c.want)
		}
	}
}

func TestRead(t *testing.T) {
	for n := range 200 {
		want := strings.Repeat("0110100", n)[:n]
		runs, ok := Read(want)
		got := ""
		for _, r := range runs {
			got += r.Text()
		}
		if !ok || got != want {
			t.Errorf("Read(%q) = %q, %v", want, got, ok)
		}
	}
	for _, s := range []string{"2", "/", strings.Repeat("1", 64) + "a", "0\x00"} {
		if runs, ok := Read(s); ok || runs != nil {
			t.Errorf("Read(%q) = %v, %v", s, runs, ok)
		}
	}
}
