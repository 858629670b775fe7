package capsule_test

import (
	"math/rand"
	"slices"
	"strings"
	"testing"

	"vizard/api"
	"vizard/capsule"
)

// parts are capsules, whole and cut, of which rows are made.
var parts = []string{
	bytesOf(0, ""), bytesOf(0, "ab"), bytesOf(1, ""), bytesOf(2, "h"), bytesOf(3, "\x04\x00"), bytesOf(0x40, "xyz"), bytesOf(greatest, "z"),
	wide(1, 2) + wide(1, 4) + "w", wide(3, 8) + wide(0, 2), wide(0, 4) + wide(2, 8) + "\x00\x00",
	head(1, 4097), head(0, greatest), head(greatest, 1<<32), head(2, 4096) + "abc",
	"\x00", "\x40", "\x00\x80", "\x01\x02a",
}

// TestRows is promises 16.1 and 16.4 of every row of up to three parts.
func TestRows(t *testing.T) {
	for _, a := range parts {
		for _, b := range append(parts, "") {
			for _, c := range append(parts, "") {
				wantCuts(t, "a row", a+b+c)
			}
		}
	}
}

// TestThreePieces is promise 16.4 of streams that are cut at every two of their bytes.
func TestThreePieces(t *testing.T) {
	for _, s := range []string{
		bytesOf(0x40, "xyz") + wide(1, 4) + wide(3, 8) + "abc" + bytesOf(0, "defg") + bytesOf(0, "") + bytesOf(0, "h") + bytesOf(4, ""),
		bytesOf(1, "") + bytesOf(greatest, "ab") + wide(0, 8) + wide(5, 8) + "abcde" + bytesOf(0, strings.Repeat("f", 70)),
		bytesOf(0, "ab") + wide(2, 2) + wide(4097, 8) + bytesOf(0, "cd"),
		bytesOf(3, "ab") + head(greatest, greatest) + bytesOf(0, "cd"),
		head(0, 4096) + strings.Repeat("x", 100),
	} {
		for a := range len(s) + 1 {
			for b := a; b <= len(s); b++ {
				wantPieces(t, "three pieces", s[:a], s[a:b], s[b:])
			}
		}
	}
}

// TestLongCuts is promise 16.4 of capsules as long as they may be, cut in two at every byte.
func TestLongCuts(t *testing.T) {
	for _, size := range []int{4095, 4096, 4097} {
		s := bytesOf(1, strings.Repeat("\x00\x01", 2100)[:size]) + bytesOf(2, "a")
		for at := range len(s) + 1 {
			wantPieces(t, "long", s[:at], s[at:])
		}
	}
}

// TestEveryShortStream is promise 16.1 of every stream of up to two bytes, and of longer ones of bytes that matter.
func TestEveryShortStream(t *testing.T) {
	for a := range 256 {
		one := string([]byte{byte(a)})
		wantCuts(t, "one", one)
		for b := range 256 {
			two := one + string([]byte{byte(b)})
			wantCuts(t, "two", two)
			wantPieces(t, "two, and more", two, "ab")
			wantPieces(t, "a count of them", "\x00", two, strings.Repeat("x", 4096))
		}
	}
	var grow func(s string, more int)
	grow = func(s string, more int) {
		wantPieces(t, "longer", s)
		wantPieces(t, "longer, byte by byte", cutBytes(s)...)
		if more == 0 {
			return
		}
		for _, b := range []byte("\x00\x01\x02\x40\x50\x80\xff") {
			grow(s+string([]byte{b}), more-1)
		}
	}
	grow("", 6)
}

// anyCapsule is a capsule, with numbers in any size.
func anyCapsule(r *rand.Rand) string {
	kind := kinds[r.Intn(len(kinds))]
	body := strings.Repeat(string([]byte{byte(r.Intn(256))}), r.Intn(100))
	k, n := room(kind), room(int64(len(body)))
	return wide(kind, k[r.Intn(len(k))]) + wide(int64(len(body)), n[r.Intn(len(n))]) + body
}

// cut is a text in random pieces, some of them empty.
func cut(r *rand.Rand, s string) (l []string) {
	most := 1 + r.Intn(40)
	for s != "" {
		n := min(r.Intn(most+1), len(s))
		l = append(l, s[:n])
		s = s[n:]
	}
	return l
}

// changed is bytes of which one is another one, is left out or put in.
func changed(r *rand.Rand, s string) string {
	b := []byte(s)
	switch at := r.Intn(len(b) + 1); {
	case at == len(b):
		b = append(b, byte(r.Intn(256)))
	case r.Intn(2) == 0:
		b[at] = byte(r.Intn(256))
	default:
		b = slices.Delete(b, at, at+1)
	}
	return string(b)
}

// TestRandomStreams is promises 16.1 and 16.4 of random streams in random pieces, whole and with bytes changed.
func TestRandomStreams(t *testing.T) {
	r := rand.New(rand.NewSource(16))
	for range 6000 {
		var out strings.Builder
		for range r.Intn(8) {
			out.WriteString(anyCapsule(r))
		}
		s := out.String()
		wantPieces(t, "random", cut(r, s)...)
		for range 4 {
			s = changed(r, s)
			wantPieces(t, "changed", cut(r, s)...)
		}
	}
}

// TestReadersApart is that what is fed to one reader changes nothing of another.
func TestReadersApart(t *testing.T) {
	s := bytesOf(1, "abc") + bytesOf(9, "xx") + bytesOf(0, "defgh")
	story := tell(s)
	a, b, great := capsule.New(), capsule.New(), capsule.New()
	great.Feed("\x00\x50\x01")
	for i := range len(s) {
		l, e := story.between(i, i+1)
		wantFeed(t, "the first", a, s[i:i+1], e, l...)
		wantFeed(t, "the second", b, s[i:i+1], e, l...)
		wantFeed(t, "the one of a great one", great, s[i:i+1], api.ErrLong)
	}
}

// TestFeedNewMemory is promise 16.1 with R4: answers share nothing with one another, nor with what a reader keeps.
func TestFeedNewMemory(t *testing.T) {
	r := capsule.New()
	first, _ := r.Feed(bytesOf(1, "h") + bytesOf(0, "a") + bytesOf(0, "b") + head(0, 3) + "c")
	want := slices.Clone(first)
	second, _ := r.Feed("de" + bytesOf(2, "f"))
	_ = append(first, capsuleOf(7, "more"))
	if !slices.Equal(second, []capsule.Capsule{capsuleOf(0, "cde"), capsuleOf(2, "f")}) {
		t.Error("a change of an answer changes another")
	}
	clear(second)
	_ = append(second, capsuleOf(7, "more"))
	if !slices.Equal(first, want) {
		t.Error("a change of an answer changes another")
	}
	clear(first)
	wantFeed(t, "behind changes", r, bytesOf(0, "l"), api.OK, capsuleOf(0, "l"))
}

// FuzzStream is promises 16.1 and 16.4 of any bytes, cut at any two places.
func FuzzStream(f *testing.F) {
	for _, s := range parts {
		f.Add(bytesOf(1, "h")+s+bytesOf(0, "abc"), 3, 9)
		f.Add(s+s, 1, 2)
	}
	f.Fuzz(func(t *testing.T, s string, a, b int) {
		a = min(max(a, 0), len(s))
		b = min(max(b, a), len(s))
		wantPieces(t, "fuzzed", s[:a], s[a:b], s[b:])
		wantPieces(t, "fuzzed, byte by byte", cutBytes(s)...)
		for _, c := range tell(s).capsules {
			wantPieces(t, "written anew", capsule.Write(c))
			wantFeed(t, "written anew", capsule.New(), capsule.Write(c), api.OK, c)
		}
	})
}
