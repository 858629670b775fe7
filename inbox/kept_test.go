package inbox

import (
	"math/rand"
	"strings"
	"testing"
)

// wantKept asks for how many bytes a box keeps.
func wantKept(t *testing.T, b *Box, name string, want int) {
	t.Helper()
	if n := len(b.came); n != want {
		t.Fatalf("%s: %d bytes are kept, want %d", name, n, want)
	}
}

// TestKept is the chapter's section 'Ways': bytes that came stand in the map, and only until they are read.
func TestKept(t *testing.T) {
	b := New()
	wantKept(t, b, "new", 0)
	b.Put(2, "cd", false)
	wantKept(t, b, "behind a gap", 2)
	b.Put(0, "abc", false)
	b.Put(0, "abcd", false)
	wantKept(t, b, "without a gap", 4)
	b.Read(3)
	wantKept(t, b, "some were read", 1)
	b.Put(0, "abcd", false)
	wantKept(t, b, "what was read comes again", 1)
	b.Read(9)
	b.Put(1, "bcd", true)
	wantKept(t, b, "all was read", 0)

	b = New()
	b.Put(0, "abc", false)
	b.Put(9, "j", false)
	b.Reset(20)
	wantKept(t, b, "reset", 0)
	b.Put(0, "abc", false)
	wantKept(t, b, "put after the reset", 0)
}

// TestKeptRefused is R2: of a piece that is refused no byte is kept.
func TestKeptRefused(t *testing.T) {
	b := New()
	b.Put(0, strings.Repeat("x", 4097), false)
	b.Put(-1, "xxx", false)
	wantKept(t, b, "refused", 0)
	b.Put(4, "e", true)
	b.Put(0, "xxxxxx", false)
	b.Put(0, "xxx", true)
	wantKept(t, b, "refused by its size", 1)
}

// TestKeptLong is promise 11.4 of a long stream: never more is kept than the limit lets come, and at the end nothing.
func TestKeptLong(t *testing.T) {
	r := rand.New(rand.NewSource(1))
	b := New()
	for range 3000 {
		read, limit, _ := b.State()
		off := max(0, read-500+int64(r.Intn(3000)))
		b.Put(off, strings.Repeat("x", r.Intn(1200)), false)
		b.Put(read, "x", false)
		if n := len(b.came); int64(n) > limit-read {
			t.Fatalf("%d bytes are kept, of %d that may come", n, limit-read)
		}
		b.Read(r.Intn(1200))
	}
	read, limit, _ := b.State()
	b.Put(read, strings.Repeat("x", int(limit-read)), true)
	wantKept(t, b, "as many as may come", 4096)
	b.Read(4096)
	wantKept(t, b, "all was read", 0)
}
