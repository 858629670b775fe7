package capsule

import (
	"strings"
	"testing"
)

// TestKept is that no more is kept than what is still needed: what came of a capsule that is not whole.
func TestKept(t *testing.T) {
	long := strings.Repeat("x", 5000)
	r := New()
	for _, step := range []struct {
		name string
		s    string
		want int
	}{
		{"a kind, in part", "\xc0\x00\x00\x00\x00\x00\x00", 7},
		{"its count, in part", "\x09\x80\x00\x10", 11},
		{"its count, and some of its data", "\x00" + long[:100], 112},
		{"all data but one byte", long[:3995], 4107},
		{"all data", "x", 0},
		{"nothing", "", 0},
		{"many, and a kind in part", strings.Repeat("\x00\x02ab", 1000) + "\x40", 1},
		{"an empty one", "\x01\x00", 0},
		{"a count, and data", "\x01\x50\x00" + long[:1000], 1003},
		{"the rest of the data, and one more in part", long[:3096] + "\x00\x05abc", 5},
		{"a great one", "de\x00\x50\x01" + long, 0},
		{"behind a great one", long, 0},
	} {
		r.Feed(step.s)
		if len(r.kept) != step.want {
			t.Errorf("%s: %d bytes are kept, want %d", step.name, len(r.kept), step.want)
		}
	}
	if !r.great {
		t.Error("there was no great one")
	}
}
