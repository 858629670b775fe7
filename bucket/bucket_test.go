package bucket_test

import (
	"fmt"
	"math"
	"testing"

	"vizard/bucket"
)

const most = 1 << 30

// edges are rates and bursts at the ends of what they may be, and far beyond.
var edges = []int{math.MinInt, math.MinInt + 1, math.MinInt32, -most, -2, -1, 0, 1, 2, most - 1, most, most + 1, math.MaxInt32, 1 << 32, 1<<32 + 1, math.MaxInt - 1, math.MaxInt}

// ticks are numbers of ticks at such ends.
var ticks = []int64{math.MinInt64, math.MinInt64 + 1, -1 << 33, -1 << 32, -most, -2, -1, 0, 1, 2, 3, most - 1, most, most + 1, math.MaxInt32, 1 << 32, 1 << 33, 1 << 34, math.MaxInt64 - 1, math.MaxInt64}

// TestExample is promises 19.1 and 19.2 of the chapter's example.
func TestExample(t *testing.T) {
	b := bucket.New(10, 100)
	wantLevel(t, "new", b, 100)
	wantTake(t, "the first", b, 60, true)
	wantTake(t, "the second", b, 50, false)
	wantLevel(t, "refused", b, 40)
	b.Tick(1)
	wantLevel(t, "a tick", b, 50)
	wantTake(t, "the third", b, 50, true)
	wantLevel(t, "empty", b, 0)
	b.Tick(99)
	wantLevel(t, "many ticks", b, 100)
	wantCounts(t, "at the end", b, 110, 50)
}

// TestNew is promise 19.1 of a new bucket: it has its burst, which is bounded, and not a byte more.
func TestNew(t *testing.T) {
	for _, one := range []struct {
		burst int
		in    int64
	}{{math.MinInt, 0}, {-1, 0}, {0, 0}, {1, 1}, {2, 2}, {100, 100}, {most - 1, most - 1}, {most, most}, {most + 1, most}, {1<<32 + 1, most}, {math.MaxInt, most}} {
		for _, rate := range edges {
			name := fmt.Sprintf("New(%d, %d)", rate, one.burst)
			b := bucket.New(rate, one.burst)
			wantLevel(t, name, b, one.in)
			wantCounts(t, name, b, 0, 0)
			wantTake(t, name, b, int(one.in)+1, false)
			wantTake(t, name, b, int(one.in), true)
			wantLevel(t, name, b, 0)
			wantCounts(t, name, b, one.in, one.in+1)
		}
	}
}

// TestRate is promise 19.1 of a rate, which is bounded: what a tick brings to an empty bucket.
func TestRate(t *testing.T) {
	for _, one := range []struct {
		rate int
		more int64
	}{{math.MinInt, 0}, {-1, 0}, {0, 0}, {1, 1}, {2, 2}, {100, 100}, {most - 1, most - 1}, {most, most}, {most + 1, most}, {1 << 32, most}, {math.MaxInt, most}} {
		name := fmt.Sprintf("rate %d", one.rate)
		b := bucket.New(one.rate, most)
		wantTake(t, name, b, most, true)
		b.Tick(0)
		wantLevel(t, name, b, 0)
		b.Tick(1)
		wantLevel(t, name, b, one.more)
		b.Tick(1)
		wantLevel(t, name, b, min(2*one.more, most))
		wantCounts(t, name, b, most, 0)
	}
}

// TestEdges is promises 19.1 and 19.2 of all rates, bursts and ticks at their edges, each from a bucket that is empty, half full, one byte from full, full.
func TestEdges(t *testing.T) {
	for _, rate := range edges {
		for _, burst := range edges {
			full := bucket.New(rate, burst).Level()
			for _, left := range []int64{0, full / 2, max(full-1, 0), full} {
				for _, n := range ticks {
					name := fmt.Sprintf("New(%d, %d), %d left, Tick(%d)", rate, burst, left, n)
					x := newBoth(t, name, rate, burst)
					x.drain(t, name, left)
					x.tick(t, name, n)
					x.take(t, name, int(x.b.Level()/2))
					x.tick(t, name, 1)
					x.tick(t, name, n)
				}
			}
		}
	}
}

// TestTick is promise 19.1 of what ticks bring: rate for each, at once or one by one, until the bucket is full.
func TestTick(t *testing.T) {
	for _, rate := range []int{1, 3, 7, 10, 1000} {
		for _, burst := range []int{1, 2, 6, 7, 8, 100, 999, 1000, 1001} {
			for n := range 30 {
				name := fmt.Sprintf("New(%d, %d), %d ticks", rate, burst, n)
				want := int64(min(rate*n, burst))
				once, apart := bucket.New(rate, burst), bucket.New(rate, burst)
				wantTake(t, name, once, burst, true)
				wantTake(t, name, apart, burst, true)
				once.Tick(int64(n))
				for range n {
					apart.Tick(1)
				}
				wantLevel(t, name+" at once", once, want)
				wantLevel(t, name+" one by one", apart, want)
			}
		}
	}
}

// TestTickBackwards is promise 19.1 of ticks below 0: they are none, and take nothing out.
func TestTickBackwards(t *testing.T) {
	for _, left := range []int{0, 1, 50, 99, 100} {
		b := bucket.New(10, 100)
		wantTake(t, "drained", b, 100-left, true)
		for _, n := range []int64{0, -1, -2, -10, -most, -1 << 32, math.MinInt64 + 1, math.MinInt64} {
			b.Tick(n)
			wantLevel(t, fmt.Sprintf("Tick(%d)", n), b, int64(left))
		}
		b.Tick(1)
		wantLevel(t, "a tick behind them", b, int64(min(left+10, 100)))
	}
}

// TestNeverAboveBurst is promise 19.1 of ticks of a bucket that is full, or nearly: it stays at its burst.
func TestNeverAboveBurst(t *testing.T) {
	for _, rate := range edges {
		for _, burst := range []int{0, 1, 2, 100, most - 1, most} {
			b := bucket.New(rate, burst)
			for _, n := range ticks {
				b.Tick(n)
				wantLevel(t, fmt.Sprintf("New(%d, %d), Tick(%d)", rate, burst, n), b, int64(burst))
			}
			wantTake(t, "one byte more than burst", b, burst+1, false)
			wantTake(t, "all of it", b, burst, true)
		}
	}
}

// TestTake is promise 19.1 of each n at the edges, from buckets that hold more and less: what is taken leaves Level by as much, what is refused changes nothing but the count.
func TestTake(t *testing.T) {
	for _, burst := range []int{0, 1, 2, 3, 100, most - 1, most} {
		for _, left := range []int{0, 1, burst / 2, burst - 1, burst} {
			if left < 0 || left > burst {
				continue
			}
			for _, n := range append([]int{left - 2, left - 1, left, left + 1, left + 2, burst, burst + 1}, edges...) {
				name := fmt.Sprintf("burst %d, %d left, Take(%d)", burst, left, n)
				b := bucket.New(1, burst)
				wantTake(t, name, b, burst-left, true)
				yes := 0 <= n && n <= left
				wantTake(t, name, b, n, yes)
				if yes {
					wantLevel(t, name, b, int64(left-n))
					wantCounts(t, name, b, int64(burst-left+n), 0)
					continue
				}
				wantLevel(t, name, b, int64(left))
				wantCounts(t, name, b, int64(burst-left), int64(max(n, 0)))
				wantTake(t, name+", and what is left", b, left, true)
				wantLevel(t, name, b, 0)
			}
		}
	}
}

// TestTakeNothing is promise 19.1 of a Take of 0: it may always be taken, also from an empty bucket and one that holds nothing.
func TestTakeNothing(t *testing.T) {
	empty := bucket.New(10, 100)
	wantTake(t, "all", empty, 100, true)
	wantTake(t, "nothing, of an empty one", empty, 0, true)
	wantTake(t, "a byte, of an empty one", empty, 1, false)
	wantLevel(t, "an empty one", empty, 0)
	wantCounts(t, "an empty one", empty, 100, 1)
	for _, burst := range []int{math.MinInt, -1, 0} {
		for _, rate := range edges {
			b := bucket.New(rate, burst)
			b.Tick(most)
			for range 3 {
				wantTake(t, "nothing, of one that holds nothing", b, 0, true)
			}
			wantTake(t, "a byte, of one that holds nothing", b, 1, false)
			wantLevel(t, "one that holds nothing", b, 0)
			wantCounts(t, "one that holds nothing", b, 0, 1)
		}
	}
	full := bucket.New(10, 100)
	wantTake(t, "nothing, of a full one", full, 0, true)
	wantLevel(t, "a full one", full, 100)
	wantCounts(t, "a full one", full, 0, 0)
}

// TestTakeBelowNothing is promises 19.1 and 19.2 of an n below 0: it is refused, brings nothing, and is not counted.
func TestTakeBelowNothing(t *testing.T) {
	for _, left := range []int{0, 1, 50, 100} {
		b := bucket.New(10, 100)
		wantTake(t, "drained", b, 100-left, true)
		for _, n := range []int{-1, -2, -50, -100, -most, -1 << 32, math.MinInt + 1, math.MinInt} {
			name := fmt.Sprintf("%d left, Take(%d)", left, n)
			wantTake(t, name, b, n, false)
			wantLevel(t, name, b, int64(left))
			wantCounts(t, name, b, int64(100-left), 0)
		}
	}
}

// TestCounts is promise 19.2 over many calls: the bytes, not the calls, of what was taken and of what was refused; ticks are not counted.
func TestCounts(t *testing.T) {
	b := bucket.New(100, 1000)
	taken, refused := int64(0), int64(0)
	for n := range 3000 {
		if b.Take(n) {
			taken += int64(n)
		} else {
			refused += int64(n)
		}
		wantCounts(t, "many calls", b, taken, refused)
		b.Tick(int64(n % 7))
		wantCounts(t, "many calls and ticks", b, taken, refused)
	}
	if taken == 0 || refused == 0 {
		t.Errorf("%d taken, %d refused", taken, refused)
	}
}

// TestCountsWrap is promise 19.2 of a count of what was refused that leaves 64 bits: it wraps round, and goes on.
func TestCountsWrap(t *testing.T) {
	b := bucket.New(0, 5)
	wantTake(t, "the first", b, math.MaxInt, false)
	wantCounts(t, "the first", b, 0, math.MaxInt64)
	wantTake(t, "six", b, 6, false)
	wantCounts(t, "beyond the greatest", b, 0, math.MinInt64+5)
	wantTake(t, "five", b, 5, true)
	wantCounts(t, "five", b, 5, math.MinInt64+5)
	wantTake(t, "up to -1", b, math.MaxInt-5, false)
	wantCounts(t, "up to -1", b, 5, -1)
	wantTake(t, "one more", b, 1, false)
	wantCounts(t, "round", b, 5, 0)
	x := newBoth(t, "many", 3, 10)
	for i := range 1000 {
		x.take(t, "many", math.MaxInt-i*i)
		x.take(t, "a few", i)
		x.tick(t, "a tick", 1)
	}
}

// TestApart is promise 19.1 of two buckets: what one is asked does not touch the other.
func TestApart(t *testing.T) {
	a, b := newBoth(t, "a", 10, 100), newBoth(t, "b", 3, 50)
	for i := range 200 {
		a.take(t, "a", i%70)
		b.hold(t, "b beside a's Take")
		b.take(t, "b", i%90-5)
		a.hold(t, "a beside b's Take")
		a.tick(t, "a", int64(i%5))
		b.hold(t, "b beside a's Tick")
		b.tick(t, "b", int64(i%4))
		a.hold(t, "a beside b's Tick")
	}
	same := bucket.New(10, 100)
	wantLevel(t, "a new one of equal numbers", same, 100)
	wantCounts(t, "a new one of equal numbers", same, 0, 0)
}
