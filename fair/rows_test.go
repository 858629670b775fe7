package fair_test

import (
	"fmt"
	"math/rand"
	"slices"
	"testing"

	"vizard/api"
	"vizard/fair"
)

// step is a Push, a Next or a Drop.
type step struct {
	kind byte
	id   int64
	size int
}

const (
	stepPush = iota
	stepNext
	stepDrop
	stepKinds
)

// step does a step; the bytes of a packet tell which one it is, as far as they are enough.
func (x both) step(t *testing.T, name string, s step, number int) {
	t.Helper()
	switch s.kind {
	case stepPush:
		x.push(t, name, s.id, marked(s.size, number))
	case stepNext:
		x.next(t, name)
	case stepDrop:
		x.drop(t, name, s.id)
	}
}

// marked is a text of so many bytes that begins with a mark of its number.
func marked(size, number int) string {
	mark := fmt.Sprint(number, ".")
	return (mark + bytes(max(size-len(mark), 0)))[:size]
}

// smallSteps are those of which each row is gone.
var smallSteps = []step{{stepPush, 1, 0}, {stepPush, 1, 1}, {stepPush, 1, 4}, {stepPush, 2, 2}, {stepPush, 3, 3}, {stepNext, 0, 0}, {stepNext, 0, 0}, {stepDrop, 1, 0}, {stepDrop, 2, 0}}

// TestRows is promises 20.1 to 20.3 of every row of five small steps, behind three packets, at small limits and quantums; what is left then comes likewise.
func TestRows(t *testing.T) {
	for _, one := range []struct{ limit, quantum int }{{1, 2}, {2, 1}, {2, 3}} {
		for row := range 9 * 9 * 9 * 9 * 9 {
			name := fmt.Sprintf("New(%d, %d), row %d", one.limit, one.quantum, row)
			x := newBoth(t, name, one.limit, one.quantum)
			for i, s := range []step{{stepPush, 2, 1}, {stepPush, 1, 2}, {stepPush, 2, 3}} {
				x.step(t, name, s, i)
			}
			for i, rest := 0, row; i < 5; i, rest = i+1, rest/9 {
				x.step(t, name, smallSteps[rest%9], i+3)
			}
			x.drain(t, name)
		}
	}
}

// someStep is a step of a few ids, whose sizes are near to what quantum makes an edge.
func someStep(r *rand.Rand, quantum int) step {
	s := step{byte(r.Intn(2)), int64(r.Intn(5)) - 2, 0}
	if r.Intn(40) == 0 {
		s.kind = stepDrop
	}
	switch r.Intn(6) {
	case 0:
		s.size = r.Intn(4)
	case 1:
		s.size = quantum*(1+r.Intn(3)) + r.Intn(3) - 1
	case 2:
		s.size = r.Intn(quantum*4 + 1)
	case 3:
		s.size = quantum/2 + r.Intn(2)
	case 4:
		s.size = 65536 - r.Intn(3)*r.Intn(1000)
	}
	s.size = min(max(s.size, 0), 65537)
	return s
}

// TestRandomRows is promises 20.1 to 20.3 of random rows of steps.
func TestRandomRows(t *testing.T) {
	r := rand.New(rand.NewSource(20))
	for row := range 600 {
		limit, quantum := r.Intn(6), []int{1, 2, 3, 4, 7, 50, 1000, 30000, 65535, most}[r.Intn(10)]
		if row%10 == 0 {
			limit, quantum = edges[r.Intn(len(edges))].given, edges[r.Intn(len(edges))].given
		}
		name := fmt.Sprintf("row %d: New(%d, %d)", row, limit, quantum)
		x := newBoth(t, name, limit, quantum)
		for i := range 120 {
			x.step(t, name, someStep(r, bound(quantum)), i)
		}
		x.drain(t, name)
	}
}

// TestRanked is promises 20.2 and 20.4 of packets that were all pushed ahead: they come in the turns that a count of their bytes says.
func TestRanked(t *testing.T) {
	r := rand.New(rand.NewSource(21))
	for row := range 1500 {
		quantum := []int{1, 2, 3, 5, 10, 100, 1000, 65535, most, 1 + r.Intn(200)}[r.Intn(10)]
		name := fmt.Sprintf("row %d: quantum %d", row, quantum)
		q := fair.New(most, quantum)
		var pushed []packet
		for i := range r.Intn(60) {
			s := someStep(r, quantum)
			one := packet{s.id, marked(min(s.size, 65535), i)}
			pushed = append(pushed, one)
			wantPush(t, name, q, one.id, one.s, api.OK)
		}
		for _, one := range ranked(quantum, pushed) {
			wantNext(t, name, q, one.id, one.s)
		}
		wantNone(t, name, q)
	}
}

// FuzzSteps is promises 20.1 to 20.4 of any row of steps: a byte says what is done and whose it is, the two behind it how many bytes a packet has.
func FuzzSteps(f *testing.F) {
	f.Add(9, 4, []byte("\x00\x00\x03\x00\x00\x03\x08\x00\x05\x01\x00\x00\x01\x00\x00\x01\x00\x00"))
	f.Add(-1, -1, []byte("\x00\xff\xff\x08\x00\x01\x01\x00\x00\x02\x00\x00\x08\xff\xff\x0a\x00\x00"))
	f.Add(2, 1<<20+1, []byte("\x00\xff\xff\x00\x00\x00\x00\x00\x01\x01\x00\x00\x10\x00\x00\x02\x00\x00\x00\x00\x01"))
	f.Add(5, 30, []byte("\x00\x00\x1e\x00\x00\x1f\x08\x00\x1d\x10\x00\x1e\x01\x00\x00\x0a\x00\x00\x01\x00\x00"))
	f.Fuzz(func(t *testing.T, limit, quantum int, row []byte) {
		x := newBoth(t, "new", limit, quantum)
		pushed, came := map[int64][]string{}, map[int64][]string{}
		for i := 0; len(row) >= 3 && i < 400; i, row = i+1, row[3:] {
			id, size := int64(row[0]>>3)%6-2, int(row[1])<<8+int(row[2])+int(row[0]>>7)
			name := fmt.Sprintf("step %d", i)
			switch row[0] % stepKinds {
			case stepPush:
				if s := marked(size, i); x.push(t, name, id, s) == api.OK {
					pushed[id] = append(pushed[id], s)
				}
			case stepNext:
				if one, ok := x.next(t, name); ok {
					came[one.id] = append(came[one.id], one.s)
				}
			case stepDrop:
				x.drop(t, name, id)
				pushed[id] = slices.Clone(came[id])
			}
		}
		for _, one := range x.drain(t, "the rest") {
			came[one.id] = append(came[one.id], one.s)
		}
		for id := range pushed {
			if !slices.Equal(pushed[id], came[id]) {
				t.Errorf("%d: not what was pushed, or in another order", id)
			}
		}
	})
}
