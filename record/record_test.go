package record

import (
	"hash/crc32"
	"slices"
	"strings"
	"testing"

	"concord/api"
	"concord/turn"
)

// of gives the record of a text.
func of(text string, rate int) Record {
	turned, row := turn.Forth(text)
	return Record{rate, row, turned}
}

func texts() []string {
	all := make([]byte, api.MaxText)
	for i := range all {
		all[i] = byte(i * 7)
	}
	return []string{"", "a", "\x00\xff", "aaaaaaaa", "aaaaaaaaa", "abracadabra", string(all[:256]), string(all)}
}

func TestSum(t *testing.T) {
	if s := sum([]byte("123456789")); s != 0xcbf43926 {
		t.Errorf("the sum of 123456789 = %x", s)
	}
	for _, s := range texts() {
		if got, want := sum([]byte(s)), crc32.ChecksumIEEE([]byte(s)); got != want {
			t.Errorf("the sum of %.60q = %x, want %x", s, got, want)
		}
	}
}

func TestDigits(t *testing.T) {
	for _, c := range []struct {
		size    int
		numbers []int
		want    string
	}{{2, nil, ""}, {2, []int{0}, "\x00\x00"}, {2, []int{258, 1, 65535}, "\x01\x02\x00\x01\xff\xff"}, {4, []int{0xfedcba98}, "\xfe\xdc\xba\x98"}} {
		if got := digits(c.size, c.numbers...); string(got) != c.want {
			t.Errorf("digits(%d, %v) = %q, want %q", c.size, c.numbers, got, c.want)
		}
	}
}

func TestReadGivesWhatWasWritten(t *testing.T) {
	for _, s := range texts() {
		for _, rate := range []int{1, 17, api.MaxRate} {
			r := of(s, rate)
			d := r.Write()
			if len(d) < shortest || len(d) > longest {
				t.Errorf("%.60q is written in %d bytes", s, len(d))
			}
			if got, ok := Read(d); !ok || got != r {
				t.Errorf("Read of %.60q, %d = %.60q, %d, %d, %v", s, rate, got.Turned, got.Rate, got.Row, ok)
			}
		}
	}
}

// Records that can be written, but are those of no index.
func TestReadRefusesWhatNoIndexIs(t *testing.T) {
	long := strings.Repeat("a", api.MaxText+1)
	for _, r := range []Record{
		{0, 2, "bbaa"}, {api.MaxRate + 1, 2, "bbaa"}, {1, 0, "bbaa"}, {1, 5, "bbaa"}, {1, 2, "abab"}, {1, 1, ""}, {1, len(long), long},
	} {
		if got, ok := Read(r.Write()); ok || got != (Record{}) {
			t.Errorf("Read of %d, %d, %.60q = %v, %v", r.Rate, r.Row, r.Turned, got, ok)
		}
	}
}

func TestKinds(t *testing.T) {
	r := reading{there: []byte("ab")}
	for place := range 60 {
		want := packed
		switch {
		case place == 0:
			want = front
		case slices.Contains([]int{1, 3, 5, 39, 41}, place):
			want = first
		case slices.Contains([]int{2, 4, 6, 40, 42}, place):
			want = further
		case place < 39:
			want = flags
		}
		if got := r.kindAt(place); got != want {
			t.Errorf("the byte at %d is of kind %d, want %d", place, got, want)
		}
	}
}

func TestTake(t *testing.T) {
	var r reading
	d := of("abracadabra", 3).Write()
	for place := range len(d) - sumSize {
		r.take(place, d[place])
	}
	if !slices.Equal(r.numbers, []int{3, 11, 3, 5, 2, 1, 1, 2}) || string(r.there) != "abcdr" || r.bits.Size() != 24 {
		t.Errorf("taken: %v, %q, %d bits", r.numbers, r.there, r.bits.Size())
	}
}
