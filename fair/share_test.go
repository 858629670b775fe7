package fair_test

import (
	"fmt"
	"math/rand"
	"slices"
	"testing"

	"vizard/api"
	"vizard/fair"
)

// TestOrder is promise 20.4 of each queue's packets: whatever else is done, they come in the order in which they were pushed, but for those that were dropped.
func TestOrder(t *testing.T) {
	r := rand.New(rand.NewSource(22))
	for row := range 400 {
		quantum := 1 + r.Intn(40)
		q := fair.New(8, quantum)
		waits := map[int64][]string{}
		for i := range 500 {
			id := int64(r.Intn(4))
			switch r.Intn(20) {
			case 0:
				wantDrop(t, "some", q, id, len(waits[id]))
				waits[id] = nil
			case 1, 2, 3, 4, 5, 6, 7, 8, 9, 10, 11:
				s := marked(r.Intn(60), i)
				want := api.OK
				if len(waits[id]) == 8 {
					want = api.ErrFull
				} else {
					waits[id] = append(waits[id], s)
				}
				wantPush(t, "some", q, id, s, want)
			default:
				who, s, ok := q.Next()
				if !ok {
					if n := len(waits[0]) + len(waits[1]) + len(waits[2]) + len(waits[3]); n > 0 {
						t.Fatalf("row %d: none, but %d wait", row, n)
					}
					continue
				}
				if len(waits[who]) == 0 || waits[who][0] != s {
					t.Fatalf("row %d: %q of %d is not the first that waits", row, s, who)
				}
				waits[who] = waits[who][1:]
			}
		}
	}
}

// sharer is one who always has packets that wait.
type sharer struct {
	id       int64
	sizes    func() int
	waiting  []int
	got      int
	greatest int
}

// fill sees to it that there are always two.
func (s *sharer) fill(t *testing.T, q *fair.Queues) {
	t.Helper()
	for len(s.waiting) < 2 {
		size := s.sizes()
		wantPush(t, "filled", q, s.id, bytes(size), api.OK)
		s.waiting = append(s.waiting, size)
		s.greatest = max(s.greatest, size)
	}
}

// share takes the next packet, of one of those that share.
func share(t *testing.T, name string, q *fair.Queues, all ...*sharer) *sharer {
	t.Helper()
	for _, s := range all {
		s.fill(t, q)
	}
	id, x, ok := q.Next()
	i := slices.IndexFunc(all, func(s *sharer) bool { return s.id == id })
	if !ok || i < 0 || len(x) != all[i].waiting[0] {
		t.Fatalf("%s: Next is %d, %d bytes, %v", name, id, len(x), ok)
	}
	all[i].waiting = all[i].waiting[1:]
	all[i].got += len(x)
	return all[i]
}

// upTo is sizes up to one.
func upTo(r *rand.Rand, greatest int) func() int {
	return func() int { return r.Intn(greatest + 1) }
}

// always is one size.
func always(size int) func() int {
	return func() int { return size }
}

// TestSharesAlike is promise 20.4 of two who come together and always have packets: behind every packet one has got less than quantum and the other's greatest packet more, whatever their packets are, and however many others there are.
func TestSharesAlike(t *testing.T) {
	r := rand.New(rand.NewSource(23))
	for row := range 300 {
		quantum := []int{1, 2, 10, 100, 1500, most}[r.Intn(6)]
		a := &sharer{id: 1, sizes: upTo(r, 1+r.Intn(300))}
		b := &sharer{id: 2, sizes: always(1 + r.Intn(300))}
		c := &sharer{id: 3, sizes: upTo(r, 1500)}
		all := []*sharer{a, b}
		if row%3 == 0 {
			all = append(all, c)
		}
		r.Shuffle(len(all), func(i, j int) { all[i], all[j] = all[j], all[i] })
		name := fmt.Sprintf("row %d: quantum %d", row, quantum)
		q := fair.New(2, quantum)
		for range 2000 {
			share(t, name, q, all...)
			if a.got-b.got >= quantum+b.greatest || b.got-a.got >= quantum+a.greatest {
				t.Fatalf("%s: %d and %d bytes, of packets of at most %d and %d", name, a.got, b.got, a.greatest, b.greatest)
			}
		}
	}
}

// TestSharesFromAnywhere is promise 20.4 counted from any packet on: what both had then comes to it, less than a packet of each.
func TestSharesFromAnywhere(t *testing.T) {
	r := rand.New(rand.NewSource(24))
	for row := range 60 {
		quantum := []int{1, 3, 50, 400}[r.Intn(4)]
		name := fmt.Sprintf("row %d: quantum %d", row, quantum)
		a := &sharer{id: 1, sizes: upTo(r, 1+r.Intn(300))}
		b := &sharer{id: 2, sizes: upTo(r, 1+r.Intn(300))}
		q := fair.New(2, quantum)
		apart := []int{0}
		for range 600 {
			share(t, name, q, a, b)
			apart = append(apart, a.got-b.got)
		}
		if n := slices.Max(apart) - slices.Min(apart); n >= quantum+a.greatest+b.greatest {
			t.Errorf("%s: %d bytes apart, of packets of at most %d and %d", name, n, a.greatest, b.greatest)
		}
	}
}

// TestSharesTheSame is promise 20.4 of packets that need all of what a turn brings: in whole turns all have got as many bytes, to the byte.
func TestSharesTheSame(t *testing.T) {
	for _, one := range []struct {
		quantum int
		sizes   []int
	}{{1, []int{1, 1}}, {12, []int{1, 12}}, {12, []int{3, 4, 6}}, {1200, []int{1200, 600, 1, 400}}, {65535, []int{65535, 3}}} {
		name := fmt.Sprint(one)
		q := fair.New(2, one.quantum)
		var all []*sharer
		for i, size := range one.sizes {
			all = append(all, &sharer{id: int64(i) - 1, sizes: always(size)})
		}
		for turns := 1; turns <= 20; turns++ {
			for _, s := range all {
				for range one.quantum / s.sizes() {
					if who := share(t, name, q, all...); who != s {
						t.Fatalf("%s: %d comes in the turn of %d", name, who.id, s.id)
					}
				}
			}
			for _, s := range all {
				if s.got != turns*one.quantum {
					t.Fatalf("%s: %d got %d bytes in %d turns", name, s.id, s.got, turns)
				}
			}
		}
	}
}

// TestGreatAndSmall is promise 20.4 of one with great packets beside one with packets of one byte: in so many turns as a great one wants, both have got as many bytes.
func TestGreatAndSmall(t *testing.T) {
	for _, quantum := range []int{1, 5, 100, 1000} {
		name := fmt.Sprintf("quantum %d", quantum)
		great, small := &sharer{id: 1, sizes: always(1000)}, &sharer{id: 2, sizes: always(1)}
		q := fair.New(2, quantum)
		for n := 1; n <= 20; n++ {
			for great.got < n*1000 {
				share(t, name, q, great, small)
			}
			if small.got != n*1000-quantum {
				t.Fatalf("%s: %d bytes ahead of the small one's turn, while the great one got %d", name, small.got, great.got)
			}
			for range quantum {
				if who := share(t, name, q, great, small); who != small {
					t.Fatalf("%s: not the small one's turn", name)
				}
			}
			if great.got != small.got {
				t.Fatalf("%s: %d and %d bytes", name, great.got, small.got)
			}
		}
	}
}
