package capsule_test

import (
	"encoding/binary"
	"slices"
	"strings"
	"testing"

	"vizard/api"
	"vizard/capsule"
)

const greatest = int64(1<<62 - 1)

// kinds are those that have names, and strange ones.
var kinds = []int64{0, 1, 2, 3, 4, 5, 62, 63, 64, 65, 1<<14 - 1, 1 << 14, 1<<30 - 1, 1 << 30, 1<<31 - 1, 1 << 31, 1 << 32, 1<<32 + 1, 1<<32 + 2, 1<<61 + 3, greatest - 1, greatest}

// noNumbers are below 0, or too great.
var noNumbers = []int64{-1, -2, -4, -28, -64, -1 << 32, -1 << 62, -1<<63 + 1, -1 << 63, greatest + 1, greatest + 2, 1<<63 - 2, 1<<63 - 1}

// wide is a number in that many bytes.
func wide(n int64, size int) string {
	var b []byte
	switch size {
	case 1:
		b = []byte{byte(n)}
	case 2:
		b = binary.BigEndian.AppendUint16(nil, uint16(n)|1<<14)
	case 4:
		b = binary.BigEndian.AppendUint32(nil, uint32(n)|2<<30)
	case 8:
		b = binary.BigEndian.AppendUint64(nil, uint64(n)|3<<62)
	}
	return string(b)
}

// room are the sizes in which a number can be written, the least first.
func room(n int64) []int {
	switch {
	case n < 1<<6:
		return []int{1, 2, 4, 8}
	case n < 1<<14:
		return []int{2, 4, 8}
	case n < 1<<30:
		return []int{4, 8}
	}
	return []int{8}
}

// put is a number in the fewest bytes.
func put(n int64) string {
	return wide(n, room(n)[0])
}

// head is a capsule's kind and count.
func head(kind, count int64) string {
	return put(kind) + put(count)
}

// bytesOf is a capsule's bytes.
func bytesOf(kind int64, data string) string {
	return head(kind, int64(len(data))) + data
}

func capsuleOf(kind int64, data string) capsule.Capsule {
	return capsule.Capsule{Kind: kind, Data: data}
}

// number is the number at a place, and where it ends; false: the bytes end within it.
func number(s string, at int) (int64, int, bool) {
	if at >= len(s) {
		return 0, 0, false
	}
	size := 1 << (s[at] / 64)
	if at+size > len(s) {
		return 0, 0, false
	}
	b := make([]byte, 8)
	copy(b[8-size:], s[at:at+size])
	b[8-size] %= 64
	return int64(binary.BigEndian.Uint64(b)), at + size, true
}

// tale is what must be told of all that was fed to a reader.
type tale struct {
	capsules []capsule.Capsule
	ends     []int // how many bytes it takes to tell each of them
	great    int   // how many bytes it takes to tell ErrLong; 0: none
	whole    bool  // what End answers
}

// tell reads a stream from its first byte on.
func tell(s string) tale {
	var t tale
	for at := 0; at < len(s); {
		kind, middle, ok := number(s, at)
		if !ok {
			return t
		}
		count, body, ok := number(s, middle)
		if !ok {
			return t
		}
		if count >= 4097 {
			t.great = body
			return t
		}
		at = body + int(count)
		if at > len(s) {
			return t
		}
		t.capsules = append(t.capsules, capsuleOf(kind, s[body:at]))
		t.ends = append(t.ends, at)
	}
	t.whole = true
	return t
}

// between is what one Feed must answer, that brings a stream from so many bytes to so many.
func (t tale) between(from, to int) (l []capsule.Capsule, e api.Errno) {
	for i, end := range t.ends {
		if end > from && end <= to {
			l = append(l, t.capsules[i])
		}
	}
	if t.great > 0 && t.great <= to {
		e = api.ErrLong
	}
	return l, e
}

// short is the beginning of bytes, for they may be many.
func short(s string) string {
	return s[:min(len(s), 40)]
}

// shorter is capsules with the beginning of their data.
func shorter(l []capsule.Capsule) (out []capsule.Capsule) {
	for _, c := range l[:min(len(l), 20)] {
		out = append(out, capsuleOf(c.Kind, short(c.Data)))
	}
	return out
}

// wantPieces feeds a stream in pieces: each Feed, and End ahead of it and behind it, must answer what the test's own reader says.
func wantPieces(t *testing.T, name string, pieces ...string) {
	t.Helper()
	s := strings.Join(pieces, "")
	story := tell(s)
	r := capsule.New()
	var all []capsule.Capsule
	from := 0
	for i, piece := range pieces {
		if got, want := r.End(), tell(s[:from]).whole; got != want {
			t.Fatalf("%s: behind %d bytes of %x End is %v, want %v", name, from, short(s), got, want)
		}
		to := from + len(piece)
		list, want := story.between(from, to)
		l, e := r.Feed(piece)
		if !slices.Equal(l, list) || e != want {
			t.Fatalf("%s: Feed %d, of the bytes from %d to %d of %x, is %x, %d; want %x, %d", name, i, from, to, short(s), shorter(l), e, shorter(list), want)
		}
		all = append(all, l...)
		from = to
	}
	if got := r.End(); got != story.whole {
		t.Fatalf("%s: behind %x End is %v, want %v", name, short(s), got, story.whole)
	}
	if !slices.Equal(all, story.capsules) {
		t.Fatalf("%s: %x is %x; want %x", name, short(s), shorter(all), shorter(story.capsules))
	}
}

// cutBytes is a text cut into its bytes.
func cutBytes(s string) (l []string) {
	for i := range len(s) {
		l = append(l, s[i:i+1])
	}
	return l
}

// wantCuts feeds a stream at once, byte by byte, and cut in two at every byte.
func wantCuts(t *testing.T, name, s string) {
	t.Helper()
	wantPieces(t, name, s)
	wantPieces(t, name+", byte by byte", cutBytes(s)...)
	for at := range len(s) + 1 {
		wantPieces(t, name+", cut", s[:at], s[at:])
	}
}

// wantStream is what a stream must answer, at once and in pieces: its capsules, its error, and what End answers.
func wantStream(t *testing.T, name, s string, e api.Errno, end bool, capsules ...capsule.Capsule) {
	t.Helper()
	story := tell(s)
	if l, told := story.between(0, len(s)); !slices.Equal(l, capsules) || told != e || story.whole != end {
		t.Fatalf("%s: the test says of %x both %x, %d, %v, and %x, %d, %v", name, short(s), shorter(capsules), e, end, shorter(l), told, story.whole)
	}
	r := capsule.New()
	wantFeed(t, name, r, s, e, capsules...)
	if got := r.End(); got != end {
		t.Errorf("%s: End behind %d bytes %x is %v, want %v", name, len(s), short(s), got, end)
	}
	if len(s) < 200 {
		wantCuts(t, name, s)
	} else {
		wantPieces(t, name+", byte by byte", cutBytes(s)...)
	}
}

// wantWhole is that a stream is these capsules, and nothing else.
func wantWhole(t *testing.T, name, s string, capsules ...capsule.Capsule) {
	t.Helper()
	wantStream(t, name, s, api.OK, true, capsules...)
}

// wantGreat is that a stream has a great one, behind these capsules.
func wantGreat(t *testing.T, name, s string, capsules ...capsule.Capsule) {
	t.Helper()
	wantStream(t, name, s, api.ErrLong, false, capsules...)
}

func wantFeed(t *testing.T, name string, r *capsule.Reader, s string, want api.Errno, capsules ...capsule.Capsule) {
	t.Helper()
	if l, e := r.Feed(s); !slices.Equal(l, capsules) || e != want {
		t.Errorf("%s: Feed of %d bytes %x is %x, %d; want %x, %d", name, len(s), short(s), shorter(l), e, shorter(capsules), want)
	}
}
