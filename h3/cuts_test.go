package h3_test

import (
	"math/rand"
	"slices"
	"strings"
	"testing"

	"vizard/h3"
)

// parts are frames, whole and cut, of which rows are made.
var parts = []string{
	frame(0, ""), frame(0, "ab"), frame(1, ""), frame(1, "h"), frame(4, ""), frame(4, "\x06\x07"), frame(4, "\x02\x00"), frame(4, "\x06"),
	frame(7, "\x00"), frame(7, "\x40\x01"), frame(7, ""), frame(7, "\x00\x00"), frame(7, "\x80\x00"),
	frame(2, ""), frame(0x40, "xyz"), wide(1, 2) + wide(1, 4) + "w", wide(7, 8) + wide(1, 2) + "\x05", head(1, 4097), head(0, greatest), head(8, greatest),
	"\x00", "\x40", "\x01\x02a",
}

// TestRows is promises 15.1, 15.2 and 15.4 of every row of up to three parts, on both kinds of streams.
func TestRows(t *testing.T) {
	for _, a := range parts {
		for _, b := range append(parts, "") {
			for _, c := range append(parts, "") {
				wantCuts(t, "a request", false, a+b+c)
				wantCuts(t, "a control stream", true, "\x00"+a+b+c)
			}
		}
	}
}

// TestThreePieces is promise 15.4 of streams that are cut at every two of their bytes.
func TestThreePieces(t *testing.T) {
	for _, c := range []struct {
		control bool
		s       string
	}{
		{false, frame(0x40, "xyz") + wide(1, 4) + wide(3, 8) + "abc" + frame(0, "defg") + frame(0, "") + frame(0, "h") + frame(4, "")},
		{false, frame(1, "") + frame(greatest, "ab") + wide(0, 8) + wide(5, 8) + "abcde" + frame(0, strings.Repeat("f", 70))},
		{true, "\x00" + wide(2, 2) + wide(3, 2) + "abc" + wide(4, 4) + wide(4, 4) + "\x40\x06\x40\x07" + frame(7, "\x80\x00\x00\x01") + frame(7, "\x00\x00")},
		{true, "\x00" + frame(4, "\x06\x07") + frame(4, "")},
		{true, "\x00" + frame(4, "\x06\x07\x06\x07") + frame(7, "\x00")},
	} {
		for a := range len(c.s) + 1 {
			for b := a; b <= len(c.s); b++ {
				wantPieces(t, "three pieces", c.control, c.s[:a], c.s[a:b], c.s[b:])
			}
		}
	}
}

// TestEveryShortStream is promises 15.1 and 15.2 of every stream of up to two bytes, and of longer ones of bytes that matter.
func TestEveryShortStream(t *testing.T) {
	for _, control := range []bool{false, true} {
		for a := range 256 {
			one := string([]byte{byte(a)})
			wantCuts(t, "one", control, one)
			for b := range 256 {
				two := one + string([]byte{byte(b)})
				wantCuts(t, "two", control, two)
				wantPieces(t, "behind 0", control, "\x00", two)
				wantPieces(t, "behind Headers", control, "\x01\x00", two+"a")
				wantPieces(t, "behind Settings", control, "\x00\x04\x00", two+"a")
			}
		}
		var grow func(s string, more int)
		grow = func(s string, more int) {
			wantPieces(t, "longer", control, s)
			wantPieces(t, "longer, byte by byte", control, bytesOf(s)...)
			if more == 0 {
				return
			}
			for _, b := range []byte("\x00\x01\x02\x04\x06\x07\x40") {
				grow(s+string([]byte{b}), more-1)
			}
		}
		grow("", 6)
	}
}

// anyFrame is a frame, mostly one that may stand where it stands, with numbers in any size.
func anyFrame(r *rand.Rand, control, first bool) string {
	kind := map[[2]bool]int64{{false, true}: 1, {false, false}: 0, {true, true}: 4, {true, false}: 7}[[2]bool{control, first}]
	switch r.Intn(20) {
	case 0:
		kind = []int64{0, 1, 4, 7}[r.Intn(4)]
	case 1, 2, 3, 4:
		kind = strangeKinds[r.Intn(len(strangeKinds))]
	}
	body := strings.Repeat(string([]byte{byte(r.Intn(256))}), r.Intn(100))
	switch kind {
	case 4:
		body, _ = pairs(r.Intn(18))
	case 7:
		n := r.Int63() >> (2 + r.Intn(60)) & greatest
		body = wide(n, room(n)[r.Intn(len(room(n)))])
	}
	kinds, counts := room(kind), room(int64(len(body)))
	return wide(kind, kinds[r.Intn(len(kinds))]) + wide(int64(len(body)), counts[r.Intn(len(counts))]) + body
}

// cut is a text in random pieces, some of them empty.
func cut(r *rand.Rand, s string) (l []string) {
	most := 1 + r.Intn(40)
	for s != "" {
		n := min(r.Intn(most+1), len(s))
		l = append(l, s[:n])
		s = s[n:]
	}
	return l
}

// TestRandomStreams is promises 15.1, 15.2 and 15.4 of random streams in random pieces, whole and with bytes changed, cut out or put in.
func TestRandomStreams(t *testing.T) {
	r := rand.New(rand.NewSource(15))
	for range 6000 {
		control := r.Intn(2) == 0
		var out strings.Builder
		if control {
			out.WriteByte(0)
		}
		for i := range r.Intn(8) {
			out.WriteString(anyFrame(r, control, i == 0))
		}
		wantPieces(t, "random", control, cut(r, out.String())...)
		b := []byte(out.String())
		for range 4 {
			switch at := r.Intn(len(b) + 1); {
			case at == len(b):
				b = append(b, byte(r.Intn(256)))
			case r.Intn(2) == 0:
				b[at] = byte(r.Intn(256))
			default:
				b = slices.Delete(b, at, at+1)
			}
			wantPieces(t, "changed", control, cut(r, string(b))...)
		}
	}
}

// TestReadersApart is that what is fed to one reader changes nothing of another.
func TestReadersApart(t *testing.T) {
	request := frame(1, "abc") + frame(2, "xx") + frame(0, "defgh")
	control := "\x00" + frame(4, "\x06\x07") + frame(2, "xx") + frame(7, "\x05")
	a, b, c, d := h3.New(false), h3.New(false), h3.New(true), h3.New(false)
	d.Feed("\x00\x00")
	for i := range min(len(request), len(control)) {
		for _, r := range []*h3.Reader{a, b} {
			l, code := tell(false, request).between(request, i, i+1)
			wantFeed(t, r, request[i:i+1], code, l...)
		}
		l, code := tell(true, control).between(control, i, i+1)
		wantFeed(t, c, control[i:i+1], code, l...)
		wantFeed(t, d, request[i:i+1], unexpected)
	}
}

// TestFeedNewMemory is promise 15.1 with R4: answers share nothing with one another, nor with what a reader keeps.
func TestFeedNewMemory(t *testing.T) {
	r := h3.New(false)
	first, _ := r.Feed(frame(1, "h") + frame(0, "a") + frame(0, "b") + head(0, 9) + "c")
	want := slices.Clone(first)
	second, _ := r.Feed("d")
	_ = append(first, data("more"))
	third, _ := r.Feed("e" + "f")
	clear(second)
	_ = append(second, data("more"))
	if !slices.Equal(first, want) || !slices.Equal(third, []h3.Event{data("ef")}) {
		t.Error("a change of an answer changes another")
	}
	clear(first)
	wantFeed(t, r, "ghijk"+frame(0, "l"), 0, data("ghijk"), data("l"))
}

// FuzzStream is promises 15.1, 15.2 and 15.4 of any bytes, cut at any two places.
func FuzzStream(f *testing.F) {
	for _, s := range parts {
		f.Add(false, frame(1, "h")+s+frame(0, "abc"), 3, 9)
		f.Add(false, s+s, 1, 2)
		f.Add(true, "\x00"+frame(4, "\x06\x07")+s+frame(7, "\x40\x00"), 5, 11)
		f.Add(true, "\x00"+s+s, 1, 3)
	}
	f.Fuzz(func(t *testing.T, control bool, s string, a, b int) {
		a = min(max(a, 0), len(s))
		b = min(max(b, a), len(s))
		wantPieces(t, "fuzzed", control, s[:a], s[a:b], s[b:])
		wantPieces(t, "fuzzed, byte by byte", control, bytesOf(s)...)
	})
}
