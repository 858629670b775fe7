package bucket

import (
	"math"
	"sync/atomic"
	"testing"
)

// TestTakenWraps is promise 19.2 of a count of what was taken that leaves 64 bits, which takes too many calls to be seen from without.
func TestTakenWraps(t *testing.T) {
	b := New(most, most)
	b.taken.Store(math.MaxInt64 - 3)
	for _, one := range []struct {
		n    int
		want int64
	}{{3, math.MaxInt64}, {1, math.MinInt64}, {most - 4, math.MinInt64 + most - 4}} {
		if !b.Take(one.n) {
			t.Fatalf("Take(%d) is false", one.n)
		}
		if taken, refused := b.Counts(); taken != one.want || refused != 0 {
			t.Fatalf("Take(%d): Counts are %d, %d; want %d, 0", one.n, taken, refused, one.want)
		}
	}
}

// TestChange is the chapter's section 'Ways': a number is changed only if it is still what it was; else what it is to be is asked for anew.
func TestChange(t *testing.T) {
	var number atomic.Int64
	number.Store(5)
	var seen []int64
	ok := change(&number, func(was int64) (int64, bool) {
		seen = append(seen, was)
		if len(seen) < 3 {
			number.Add(100)
		}
		return was * 2, true
	})
	if n := number.Load(); !ok || n != 410 || len(seen) != 3 || seen[0] != 5 || seen[1] != 105 || seen[2] != 205 {
		t.Errorf("change is %v, the number is %d, seen were %v", ok, n, seen)
	}
}

// TestChangeRefused is the chapter's section 'Ways' of a number that is to stay: at once, and when another call made it so meanwhile.
func TestChangeRefused(t *testing.T) {
	for _, one := range []struct{ from, want int64 }{{0, 0}, {7, 8}} {
		var number atomic.Int64
		number.Store(one.from)
		ok := change(&number, func(was int64) (int64, bool) {
			if was == 7 {
				number.Store(8)
			}
			return 100, was == 7
		})
		if n := number.Load(); ok || n != one.want {
			t.Errorf("from %d: change is %v, the number is %d, want %d", one.from, ok, n, one.want)
		}
	}
}
