package bucket_test

import (
	"fmt"
	"math"
	"math/rand"
	"sync"
	"sync/atomic"
	"testing"

	"vizard/bucket"
)

// step is a Tick or a Take of n.
type step struct {
	tick bool
	n    int64
}

func (x both) step(t *testing.T, name string, s step) {
	t.Helper()
	if s.tick {
		x.tick(t, name, s.n)
	} else {
		x.take(t, name, int(s.n))
	}
}

// smallSteps are those of which each row is gone.
var smallSteps = []step{{false, -1}, {false, 0}, {false, 1}, {false, 2}, {false, 3}, {true, -1}, {true, 0}, {true, 1}, {true, 2}}

// TestRows is promises 19.1 and 19.2 of every row of four small steps, of small buckets.
func TestRows(t *testing.T) {
	for rate := range 3 {
		for burst := range 4 {
			for row := range 9 * 9 * 9 * 9 {
				name := fmt.Sprintf("New(%d, %d), row %d", rate, burst, row)
				x := newBoth(t, name, rate, burst)
				for rest := row; rest > 0; rest /= 9 {
					x.step(t, name, smallSteps[rest%9])
				}
			}
		}
	}
}

// someInt is a number that is small, near to an edge, or any.
func someInt(r *rand.Rand) int {
	switch r.Intn(4) {
	case 0:
		return r.Intn(40) - 5
	case 1:
		return edges[r.Intn(len(edges))] + r.Intn(3) - 1
	case 2:
		return r.Intn(most + 1)
	}
	return int(r.Uint64()) >> r.Intn(64)
}

// nearStep is a step that what is in makes likely to be at an edge.
func nearStep(r *rand.Rand, in int64) step {
	switch r.Intn(4) {
	case 0:
		return step{r.Intn(2) == 0, int64(someInt(r))}
	case 1:
		return step{true, int64(r.Intn(3))}
	case 2:
		return step{false, in + int64(r.Intn(3)) - 1}
	}
	return step{false, r.Int63n(in + 1)}
}

// TestRandomRows is promises 19.1 and 19.2 of random rows of steps.
func TestRandomRows(t *testing.T) {
	r := rand.New(rand.NewSource(19))
	for row := range 2000 {
		name := fmt.Sprintf("row %d", row)
		x := newBoth(t, name, someInt(r), someInt(r))
		for range 60 {
			x.step(t, name, nearStep(r, x.b.Level()))
		}
	}
}

// within is a number as a bucket takes it.
func within(n int64) int64 {
	return min(max(n, 0), most)
}

// TestNoMoreThanRate is promise 19.3 of random rows: from the beginning on, and in every stretch within, no more is taken than burst, and rate for each tick.
func TestNoMoreThanRate(t *testing.T) {
	r := rand.New(rand.NewSource(20))
	for row := range 300 {
		rate, burst := r.Intn(50), r.Intn(200)
		b := bucket.New(rate, burst)
		taken, ticked := []int64{0}, []int64{0}
		for range 60 {
			more, passed := int64(0), int64(0)
			if s := nearStep(r, b.Level()); s.tick {
				b.Tick(s.n)
				passed = within(s.n)
			} else if b.Take(int(s.n)) {
				more = s.n
			}
			taken = append(taken, taken[len(taken)-1]+more)
			ticked = append(ticked, ticked[len(ticked)-1]+passed)
		}
		for to := range taken {
			for from := range to {
				if got, may := taken[to]-taken[from], int64(burst)+int64(rate)*(ticked[to]-ticked[from]); got > may {
					t.Fatalf("row %d: New(%d, %d): of steps %d to %d %d were taken, and no more than %d may be", row, rate, burst, from, to, got, may)
				}
			}
		}
		if n, _ := b.Counts(); n != taken[len(taken)-1] {
			t.Fatalf("row %d: Counts are %d, want %d", row, n, taken[len(taken)-1])
		}
	}
}

// TestAsMuchAsRate is promise 19.3 at its bound: who asks for all there is gets burst, and rate for each tick that finds room.
func TestAsMuchAsRate(t *testing.T) {
	for _, one := range []struct{ rate, burst int }{{0, 0}, {0, 100}, {1, 1}, {10, 100}, {100, 100}, {most, most}} {
		b := bucket.New(one.rate, one.burst)
		for range 1000 {
			wantTake(t, "a byte more than all", b, int(b.Level())+1, false)
			wantTake(t, "all", b, int(b.Level()), true)
			b.Tick(1)
		}
		if taken, _ := b.Counts(); taken != int64(one.burst)+999*int64(one.rate) {
			t.Errorf("New(%d, %d): %d were taken", one.rate, one.burst, taken)
		}
	}
}

// TestCallsAtOnce is promises 19.1 to 19.3 of many callers at once: each byte is taken once, and each is counted.
func TestCallsAtOnce(t *testing.T) {
	const callers, calls, burst, rate = 8, 5000, 10000, 2
	b := bucket.New(rate, burst)
	var got, missed, ticked atomic.Int64
	var all sync.WaitGroup
	for caller := range callers {
		all.Go(func() {
			for i := range calls {
				n := (caller+i)%4 + 1
				if b.Take(n) {
					got.Add(int64(n))
				} else {
					missed.Add(int64(n))
				}
				b.Take(-n)
				if i >= calls/2 && i%16 == 0 {
					b.Tick(1)
					ticked.Add(1)
				}
			}
		})
	}
	all.Wait()
	wantCounts(t, "at once", b, got.Load(), missed.Load())
	// Level and what was taken tell how much the ticks brought, which is no more than their rate; what is missing stood above burst.
	if brought := b.Level() + got.Load() - burst; brought < 0 || brought > rate*ticked.Load() {
		t.Errorf("%d ticks brought %d", ticked.Load(), brought)
	}
}

// TestTakesAtOnce is promise 19.1 of many that take at once: together they get all there is, and not a byte more.
func TestTakesAtOnce(t *testing.T) {
	for range 50 {
		const callers, burst = 8, 3001
		b := bucket.New(0, burst)
		var all sync.WaitGroup
		for range callers {
			all.Go(func() {
				for range 1000 {
					b.Take(1)
				}
			})
		}
		all.Wait()
		wantLevel(t, "taken at once", b, 0)
		wantCounts(t, "taken at once", b, burst, callers*1000-burst)
	}
}

// TestTicksAtOnce is promise 19.1 of many ticks at once: none is lost, and none fills it above burst.
func TestTicksAtOnce(t *testing.T) {
	for _, burst := range []int{most, 30000} {
		b := bucket.New(3, burst)
		wantTake(t, "all", b, burst, true)
		var all sync.WaitGroup
		for range 8 {
			all.Go(func() {
				for range 2000 {
					b.Tick(1)
				}
			})
		}
		all.Wait()
		wantLevel(t, "ticks at once", b, int64(min(8*2000*3, burst)))
	}
}

// FuzzSteps is promises 19.1 to 19.3 of any row of steps: a byte says what is done, the eight behind it by how much.
func FuzzSteps(f *testing.F) {
	f.Add(10, 100, []byte("\x01\x00\x00\x00\x00\x00\x00\x00\x3c\x00\x00\x00\x00\x00\x00\x00\x00\x01"))
	f.Add(math.MaxInt, math.MaxInt, []byte("\x00\x7f\xff\xff\xff\xff\xff\xff\xff\x01\x7f\xff\xff\xff\xff\xff\xff\xff"))
	f.Add(-1, -1, []byte("\x03\x80\x00\x00\x00\x00\x00\x00\x00\x02\x80\x00\x00\x00\x00\x00\x00\x00"))
	f.Fuzz(func(t *testing.T, rate, burst int, row []byte) {
		x := newBoth(t, "new", rate, burst)
		may := x.b.Level()
		for len(row) >= 9 && may < 1<<62 {
			n := int64(0)
			for _, c := range row[1:9] {
				n = n<<8 | int64(c)
			}
			s := step{row[0]&1 == 0, n}
			if row[0]&2 != 0 {
				s.n = x.b.Level() + n%3
			}
			row = row[9:]
			x.step(t, fmt.Sprint(s), s)
			if s.tick {
				may += within(int64(rate)) * within(s.n)
			}
			if taken, _ := x.b.Counts(); taken > may {
				t.Fatalf("%d were taken, and no more than %d may be", taken, may)
			}
		}
	})
}
