package fair_test

import (
	"cmp"
	"slices"
	"testing"

	"vizard/api"
	"vizard/fair"
)

const most = 1 << 20

// packet is a packet that waited, and whose it was.
type packet struct {
	id int64
	s  string
}

// member is one of a round.
type member struct {
	id      int64
	packets []string
	deficit int
	served  bool
}

// plain is second queues: members in a row, asked one by one, turn for turn.
type plain struct {
	limit, quantum int
	round          []*member
}

func bound(n int) int {
	switch {
	case n < 1:
		return 1
	case n > 1<<20:
		return 1 << 20
	}
	return n
}

func (p *plain) place(id int64) int {
	return slices.IndexFunc(p.round, func(m *member) bool { return m.id == id })
}

func (p *plain) push(id int64, s string) api.Errno {
	if len(s) >= 1<<16 {
		return api.ErrLong
	}
	i := p.place(id)
	if i < 0 {
		p.round = append(p.round, &member{id: id, packets: []string{s}})
		return api.OK
	}
	if len(p.round[i].packets) >= p.limit {
		return api.ErrFull
	}
	p.round[i].packets = append(p.round[i].packets, s)
	return api.OK
}

func (p *plain) next() (packet, bool) {
	for len(p.round) > 0 {
		m := p.round[0]
		if !m.served {
			m.deficit += p.quantum
		}
		if s := m.packets[0]; len(s) <= m.deficit {
			m.packets = slices.Delete(m.packets, 0, 1)
			m.deficit -= len(s)
			m.served = true
			if len(m.packets) == 0 {
				p.round = slices.Delete(p.round, 0, 1)
			}
			return packet{m.id, s}, true
		}
		m.served = false
		p.round = append(slices.Delete(p.round, 0, 1), m)
	}
	return packet{}, false
}

func (p *plain) drop(id int64) int {
	i := p.place(id)
	if i < 0 {
		return 0
	}
	n := len(p.round[i].packets)
	p.round = slices.Delete(p.round, i, i+1)
	return n
}

func (p *plain) count() int {
	n := 0
	for _, m := range p.round {
		n += len(m.packets)
	}
	return n
}

// both is queues and their second.
type both struct {
	q *fair.Queues
	p *plain
}

func newBoth(t *testing.T, name string, limit, quantum int) both {
	t.Helper()
	x := both{fair.New(limit, quantum), &plain{limit: bound(limit), quantum: bound(quantum)}}
	if x.q == nil {
		t.Fatalf("%s: New(%d, %d) is nil", name, limit, quantum)
	}
	x.hold(t, name)
	return x
}

// hold asks queues all that may be asked without a change, twice.
func (x both) hold(t *testing.T, name string) {
	t.Helper()
	for range 2 {
		if n := x.q.Count(); n != x.p.count() {
			t.Fatalf("%s: Count is %d, want %d", name, n, x.p.count())
		}
	}
}

func (x both) push(t *testing.T, name string, id int64, s string) api.Errno {
	t.Helper()
	e, want := x.q.Push(id, s), x.p.push(id, s)
	if e != want {
		t.Fatalf("%s: Push(%d, %d bytes) is %d, want %d", name, id, len(s), e, want)
	}
	x.hold(t, name)
	return e
}

func (x both) next(t *testing.T, name string) (packet, bool) {
	t.Helper()
	id, s, ok := x.q.Next()
	want, there := x.p.next()
	if (packet{id, s}) != want || ok != there {
		t.Fatalf("%s: Next is %d, %d bytes, %v; want %d, %d bytes, %v", name, id, len(s), ok, want.id, len(want.s), there)
	}
	x.hold(t, name)
	return want, there
}

func (x both) drop(t *testing.T, name string, id int64) int {
	t.Helper()
	n, want := x.q.Drop(id), x.p.drop(id)
	if n != want {
		t.Fatalf("%s: Drop(%d) is %d, want %d", name, id, n, want)
	}
	x.hold(t, name)
	return n
}

// drain takes all that waits, which tells what the deficits and the order of the round were.
func (x both) drain(t *testing.T, name string) []packet {
	t.Helper()
	var all []packet
	for {
		one, ok := x.next(t, name)
		if !ok {
			return all
		}
		all = append(all, one)
	}
}

// ranked is the order in which packets come that were all pushed ahead of the first Next, by a reading without a round: one comes in the turn in which quantum for each turn is as many bytes as those of its queue up to it, within a turn in the order in which ids came, and of an id as pushed.
func ranked(quantum int, pushed []packet) []packet {
	type rank struct {
		turn, came int
		packet
	}
	var ranks []rank
	came, bytes := map[int64]int{}, map[int64]int{}
	for _, one := range pushed {
		if _, ok := came[one.id]; !ok {
			came[one.id] = len(came)
		}
		bytes[one.id] += len(one.s)
		turn := max(1, (bytes[one.id]+bound(quantum)-1)/bound(quantum))
		ranks = append(ranks, rank{turn, came[one.id], one})
	}
	slices.SortStableFunc(ranks, func(a, b rank) int {
		return cmp.Or(cmp.Compare(a.turn, b.turn), cmp.Compare(a.came, b.came))
	})
	var all []packet
	for _, r := range ranks {
		all = append(all, r.packet)
	}
	return all
}
