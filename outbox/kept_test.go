package outbox

import (
	"math/rand"
	"strings"
	"testing"
)

// wantKept asks for how many bytes a box keeps.
func wantKept(t *testing.T, b *Box, name string, want int) {
	t.Helper()
	if n, m := len(b.text), len(b.fates); n != want || m != want {
		t.Fatalf("%s: %d bytes and %d fates are kept, want %d", name, n, m, want)
	}
}

// TestKept is the chapter's section 'Ways': what became of a byte is kept for each, and only until all up to it are there.
func TestKept(t *testing.T) {
	b := New()
	wantKept(t, b, "new", 0)
	b.Write("abcdef", false)
	wantKept(t, b, "written", 6)
	p, _ := b.Next(2)
	q, _ := b.Next(2)
	wantKept(t, b, "on their way", 6)
	if fates := string([]byte{onWay, onWay, onWay, onWay, fresh, fresh}); string(b.fates) != fates {
		t.Fatalf("the fates are %v", b.fates)
	}
	b.Acked(q)
	wantKept(t, b, "behind a gap", 6)
	if fates := string([]byte{onWay, onWay, there, there, fresh, fresh}); string(b.fates) != fates {
		t.Fatalf("the fates are %v", b.fates)
	}
	b.Acked(p)
	wantKept(t, b, "there", 2)
	b.Lost(p)
	b.Lost(q)
	wantKept(t, b, "lost when they were there", 2)
	b.Write("g", true)
	p, _ = b.Next(9)
	b.Lost(p)
	wantKept(t, b, "lost", 3)
	b.Acked(p)
	wantKept(t, b, "all there", 0)
	b.Write("h", true)
	wantKept(t, b, "refused", 0)
}

// TestKeptRefused is rule R2 of promise 12.1: of what is refused nothing is kept.
func TestKeptRefused(t *testing.T) {
	b := New()
	b.Write(strings.Repeat("x", mostMissing+1), true)
	wantKept(t, b, "too much", 0)
	b.Write(strings.Repeat("x", mostMissing), false)
	b.Write("x", true)
	wantKept(t, b, "as much as may be", mostMissing)
}

// TestKeptLong is promise 12.1 of a long stream whose pieces are there in their order: never more is kept than may be missing, and at the end nothing.
func TestKeptLong(t *testing.T) {
	r := rand.New(rand.NewSource(1))
	b := New()
	for range 5000 {
		b.Allow(1 << 40)
		b.Write(strings.Repeat("x", r.Intn(2000)), false)
		p, _ := b.Next(r.Intn(2500))
		b.Acked(p)
		if n := max(cap(b.text), cap(b.fates)); n > 4*mostMissing {
			t.Fatalf("there is room for %d bytes", n)
		}
	}
	b.Write("", true)
	p, _ := b.Next(1 << 40)
	b.Acked(p)
	wantKept(t, b, "all there", 0)
	if _, _, all := b.State(); !all {
		t.Fatal("not all is there")
	}
}
