package h3

import (
	"strings"
	"testing"
)

// wantKept asks for how many bytes a reader keeps, and that it keeps no events.
func wantKept(t *testing.T, r *Reader, name string, want int) {
	t.Helper()
	if len(r.kept) != want || r.told != nil {
		t.Errorf("%s: %d bytes and %d events are kept, want %d bytes", name, len(r.kept), len(r.told), want)
	}
}

// TestKept is that no more is kept than what is still needed: what came of a number, or of a frame that is told whole.
func TestKept(t *testing.T) {
	long := strings.Repeat("x", 5000)
	r := New(false)
	for _, step := range []struct {
		name string
		s    string
		want int
	}{
		{"a strange kind, in part", "\xc0\x00\x00\x00\x00\x00\x00", 7},
		{"its count, in part", "\x09\x80\x00\x13", 3},
		{"its count, and some of its data", "\x88" + long[:100], 0},
		{"the rest of its data", long[:4900], 0},
		{"a kind in part", "\x40", 1},
		{"a kind", "\x01", 0},
		{"a count, and data", "\x50\x00" + long[:1000], 1000},
		{"all data but one byte", long[:3095], 4095},
		{"all data", "x", 0},
		{"some of Data", "\x00\x53\x88" + long[:4000], 0},
		{"the rest of Data, and a kind in part", long[:1000] + "\x80\x00", 2},
		{"a fault", "\x00\x04\x00" + long, 0},
		{"behind a fault", long, 0},
	} {
		r.Feed(step.s)
		wantKept(t, r, step.name, step.want)
	}
	if r.code == 0 {
		t.Error("there was no fault")
	}
	r = New(true)
	r.Feed("\x00\x04\x50\x00" + long[:4096])
	wantKept(t, r, "wrong data", 0)
	r = New(false)
	r.Feed("\x01\x50\x01" + long)
	wantKept(t, r, "too long", 0)
}
