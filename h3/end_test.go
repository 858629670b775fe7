package h3_test

import (
	"testing"

	"vizard/h3"
)

// TestEndRequest is promise 15.2 of a request.
func TestEndRequest(t *testing.T) {
	for _, c := range []struct {
		s    string
		want int64
	}{
		{"", noMessage},
		{"\x01", wrongFrame},
		{"\x40", wrongFrame},
		{"\xc0\x00\x00\x00\x00\x00\x00", wrongFrame},
		{"\x01\x40", wrongFrame},
		{"\x01\x02", wrongFrame},
		{"\x01\x02a", wrongFrame},
		{"\x01\x02ab", 0},
		{"\x01\x00", 0},
		{"\x01\x00\x00", wrongFrame},
		{"\x01\x00\x00\x00", 0},
		{"\x01\x00\x00\x01", wrongFrame},
		{"\x01\x00\x00\x01d", 0},
		{"\x01\x00\x00\x02d", wrongFrame},
		{"\x01\x00\x21", wrongFrame},
		{"\x01\x00\x21\x01", wrongFrame},
		{"\x01\x00\x21\x02a", wrongFrame},
		{"\x01\x00\x21\x01a", 0},
		{"\x01\x00\x04", wrongFrame},
		{"\x00", wrongFrame},
		{"\x00\x00", unexpected},
		{"\x21", wrongFrame},
		{"\x21\x00", noMessage},
		{"\x21\x01", wrongFrame},
		{"\x21\x01a", noMessage},
		{"\x21\x01a\x21\x00", noMessage},
		{"\x21\x02a", wrongFrame},
		{"\x01\x00\x01\x00", unexpected},
		{"\x04\x00", unexpected},
		{"\x01\x50\x01", wrongFrame},
	} {
		wantEnd(t, false, c.s, c.want)
	}
}

// TestEndControl is promise 15.2 of a control stream.
func TestEndControl(t *testing.T) {
	for _, c := range []struct {
		s    string
		want int64
	}{
		{"", wrongFrame},
		{"\x00", 0},
		{"\x01", unexpected},
		{"\xff", unexpected},
		{"\x00\x04", wrongFrame},
		{"\x00\x04\x00", 0},
		{"\x00\x04\x40", wrongFrame},
		{"\x00\x04\x02", wrongFrame},
		{"\x00\x04\x02\x06", wrongFrame},
		{"\x00\x04\x02\x02", wrongFrame},
		{"\x00\x04\x02\x06\x07", 0},
		{"\x00\x04\x02\x02\x07", wrongPairs},
		{"\x00\x04\x00\x07", wrongFrame},
		{"\x00\x04\x00\x07\x01", wrongFrame},
		{"\x00\x04\x00\x07\x01\x00", 0},
		{"\x00\x04\x00\x07\x00", wrongFrame},
		{"\x00\x07", wrongFrame},
		{"\x00\x07\x01", missing},
		{"\x00\x21", wrongFrame},
		{"\x00\x21\x00", 0},
		{"\x00\x21\x01", wrongFrame},
		{"\x00\x21\x01a", 0},
		{"\x00\x00", wrongFrame},
		{"\x00\x00\x00", unexpected},
		{"\x00\x04\x00\x04\x00", unexpected},
	} {
		wantEnd(t, true, c.s, c.want)
	}
}

// wantEnd asks End twice, for it changes nothing.
func wantEnd(t *testing.T, control bool, s string, want int64) {
	t.Helper()
	if code := tell(control, s).end; code != want {
		t.Fatalf("the test says of %x both %x and %x", s, want, code)
	}
	for _, pieces := range [][]string{{s}, bytesOf(s)} {
		r := h3.New(control)
		for _, piece := range pieces {
			r.Feed(piece)
		}
		for range 2 {
			if code := r.End(); code != want {
				t.Errorf("End behind %x is %x, want %x", s, code, want)
			}
		}
	}
	wantCuts(t, "End", control, s)
}

// TestEndChangesNothing is promise 15.2 with R2: a reader that was asked reads on as one that was not.
func TestEndChangesNothing(t *testing.T) {
	for _, c := range []struct {
		control bool
		s       string
	}{
		{false, frame(2, "x") + frame(1, "abc") + frame(0, "def") + frame(0, "g") + frame(1, "")},
		{true, "\x00" + frame(4, "\x06\x07") + frame(2, "x") + frame(7, "\x40\x01") + frame(7, "")},
	} {
		asked, other := h3.New(c.control), h3.New(c.control)
		for _, b := range bytesOf(c.s) {
			asked.End()
			l, code := other.Feed(b)
			wantFeed(t, asked, b, code, l...)
			asked.End()
		}
	}
}
