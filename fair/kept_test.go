package fair

import (
	"math/rand"
	"slices"
	"strings"
	"testing"
)

// check asks of what is kept that it is what waits, and no more.
func (q *Queues) check(t *testing.T) {
	t.Helper()
	if len(q.round) != len(q.queues) {
		t.Fatalf("%d in the round, %d queues", len(q.round), len(q.queues))
	}
	count := 0
	for id, own := range q.queues {
		if !slices.Contains(q.round, id) || len(own.packets) == 0 || len(own.packets) > q.limit {
			t.Fatalf("%d: %d packets, the round is %v", id, len(own.packets), q.round)
		}
		if own.deficit < 0 || own.deficit > longest+q.quantum {
			t.Fatalf("%d: the deficit is %d", id, own.deficit)
		}
		if cap(own.packets) > 4*q.limit+8 {
			t.Fatalf("%d: room for %d packets", id, cap(own.packets))
		}
		count += len(own.packets)
	}
	if q.count != count || len(q.round) == 0 && q.served || cap(q.round) > 64 {
		t.Fatalf("the count is %d of %d, served is %v, the round has room for %d", q.count, count, q.served, cap(q.round))
	}
}

// TestKept is rule 8 of the language and promises 20.1 to 20.3: whatever was pushed, taken and dropped, what is kept is what waits, for those who have packets.
func TestKept(t *testing.T) {
	r := rand.New(rand.NewSource(25))
	for range 200 {
		q := New(r.Intn(5), 1+r.Intn(9))
		for range 400 {
			switch id := int64(r.Intn(6)); r.Intn(9) {
			case 0:
				q.Drop(id)
			case 1, 2, 3, 4:
				q.Push(id, strings.Repeat("x", r.Intn(20)))
			default:
				q.Next()
			}
			q.check(t)
		}
	}
}

// TestTakenIsNotKept is rule 8 of the language: a packet that was taken is not kept in front of those that wait.
func TestTakenIsNotKept(t *testing.T) {
	q := New(9, 100)
	for _, s := range []string{"a", "b", "c"} {
		q.Push(1, s)
	}
	packets := q.queues[1].packets
	q.Next()
	q.Next()
	if !slices.Equal(packets, []string{"", "", "c"}) {
		t.Errorf("kept: %q", packets)
	}
}

// TestSkip is promise 20.2 of rounds in which no packet may go: as many are gone through at once as there are, and not one more.
func TestSkip(t *testing.T) {
	for _, one := range []struct {
		quantum int
		lacks   []int
		rounds  int
	}{{1, []int{1}, 0}, {1, []int{2}, 1}, {1, []int{100, 7, 50}, 6}, {10, []int{10, 500}, 0}, {10, []int{11, 500}, 1}, {10, []int{500, 20}, 1}, {10, []int{21, 22}, 2}, {most, []int{65535}, 0}} {
		q := New(1, one.quantum)
		for id, lack := range one.lacks {
			q.Push(int64(id), strings.Repeat("x", lack))
		}
		q.skip()
		for id := range one.lacks {
			if n := q.queues[int64(id)].deficit; n != one.rounds*one.quantum {
				t.Errorf("%v: the deficit of %d is %d", one, id, n)
			}
		}
	}
}
