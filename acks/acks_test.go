package acks_test

import (
	"math"
	"math/rand"
	"slices"
	"testing"

	"vizard/acks"
	"vizard/api"
)

const greatest = int64(1<<62 - 1)

// wrongNumbers are those that are in no set.
var wrongNumbers = []int64{math.MinInt64, math.MinInt64 + 1, -1 << 62, -2, -1, greatest + 1, greatest + 2, math.MaxInt64 - 1, math.MaxInt64}

// farPoints are numbers at the ends of what is right and of the sizes of numbers, and wrong ones.
var farPoints = []int64{
	math.MinInt64, math.MinInt64 + 1, -2, -1, 0, 1, 2, 3, 63, 64, 65, 1<<31 - 1, 1 << 31, 1<<32 - 1, 1 << 32, 1<<32 + 1,
	1 << 61, greatest - 3, greatest - 2, greatest - 1, greatest, greatest + 1, greatest + 2, math.MaxInt64 - 1, math.MaxInt64,
}

// bases are where rows of numbers begin or end.
var bases = []int64{0, 1, 1<<32 - 4, 1 << 61}

// row is numbers that follow one another.
func row(first int64, count int) []int64 {
	l := make([]int64, count)
	for i := range l {
		l[i] = first + int64(i)
	}
	return l
}

// plain is a set that is told number by number: cell 2i is points[i], cell 2i+1 is what lies between that and the next one.
type plain struct {
	points []int64
	in     []bool
}

func newPlain(points []int64) *plain {
	return &plain{points: points, in: make([]bool, 2*len(points)-1)}
}

func (p *plain) low(cell int) int64  { return p.points[cell/2] + int64(cell%2) }
func (p *plain) high(cell int) int64 { return p.points[(cell+1)/2] - int64(cell%2) }

// ranges is the set's ranges, and at which cell each begins.
func (p *plain) ranges() (l []api.Range, from []int) {
	open := false
	for cell := len(p.in) - 1; cell >= 0; cell-- {
		switch {
		case p.low(cell) > p.high(cell):
		case !p.in[cell]:
			open = false
		case open:
			l[len(l)-1].Low, from[len(l)-1] = p.low(cell), cell
		default:
			l, from, open = append(l, api.Range{Low: p.low(cell), High: p.high(cell)}), append(from, cell), true
		}
	}
	return l, from
}

// add adds from one point to another.
func (p *plain) add(i, j int) api.Errno {
	if i > j || p.points[i] < 0 || p.points[j] > greatest {
		return api.ErrRange
	}
	for cell := 2 * i; cell <= 2*j; cell++ {
		p.in[cell] = true
	}
	for l, from := p.ranges(); len(l) > 16; l, from = p.ranges() {
		clear(p.in[:from[15]])
	}
	return api.OK
}

// drop takes away what is below a point.
func (p *plain) drop(i int) {
	clear(p.in[:2*i])
}

func (p *plain) has(n int64) bool {
	i, found := slices.BinarySearch(p.points, n)
	if found {
		return p.in[2*i]
	}
	return i > 0 && i < len(p.points) && p.in[2*i-1]
}

// addBoth adds from one point to another to a set and to its plain one.
func addBoth(t *testing.T, s *acks.Set, p *plain, i, j int) {
	t.Helper()
	if e, want := s.Add(p.points[i], p.points[j]), p.add(i, j); e != want {
		t.Fatalf("Add(%d, %d) is %d, want %d", p.points[i], p.points[j], e, want)
	}
}

// dropBoth takes what is below a point away from a set and from its plain one.
func dropBoth(s *acks.Set, p *plain, i int) {
	s.Drop(p.points[i])
	p.drop(i)
}

// holdAgainst asks a set for all that it tells.
func holdAgainst(t *testing.T, name string, s *acks.Set, p *plain) {
	t.Helper()
	want, _ := p.ranges()
	if l := s.Ranges(); !slices.Equal(l, want) {
		t.Fatalf("%s: the ranges are %v, want %v", name, l, want)
	}
	for _, n := range p.points {
		// At the ends of all numbers these wrap round, which is as good a number to ask for.
		for _, m := range []int64{n - 1, n, n + 1} {
			if in, want := s.Has(m), p.has(m); in != want {
				t.Fatalf("%s: Has(%d) is %v, want %v", name, m, in, want)
			}
		}
	}
	wantRight(t, s.Ranges())
}

// wantRight holds ranges against the chapter's words.
func wantRight(t *testing.T, l []api.Range) {
	t.Helper()
	if e := rightness(l); e != api.OK {
		t.Fatalf("the ranges %v are not right: %d", l, e)
	}
	if e := acks.Check(l); e != api.OK {
		t.Fatalf("Check(%v) is %d, want OK", l, e)
	}
}

// rightness is what Check must answer.
func rightness(l []api.Range) api.Errno {
	if len(l) > 16 {
		return api.ErrLong
	}
	for _, r := range l {
		for _, n := range []int64{r.Low, r.High} {
			if n < 0 || n > greatest {
				return api.ErrRange
			}
		}
		if r.Low > r.High {
			return api.ErrRange
		}
	}
	for i := 1; i < len(l); i++ {
		if l[i-1].Low-l[i].High < 2 {
			return api.ErrRange
		}
	}
	return api.OK
}

func wantRanges(t *testing.T, name string, s *acks.Set, want ...api.Range) {
	t.Helper()
	if l := s.Ranges(); !slices.Equal(l, want) {
		t.Fatalf("%s: the ranges are %v, want %v", name, l, want)
	}
	for _, r := range want {
		for _, n := range []int64{r.Low, r.Low + (r.High-r.Low)/2, r.High} {
			if !s.Has(n) {
				t.Fatalf("%s: Has(%d) is false", name, n)
			}
		}
		if s.Has(r.Low-1) || s.Has(r.High+1) {
			t.Fatalf("%s: a number beside %d to %d is in the set", name, r.Low, r.High)
		}
	}
	wantRight(t, s.Ranges())
}

func wantAdd(t *testing.T, s *acks.Set, low, high int64, want api.Errno) {
	t.Helper()
	if e := s.Add(low, high); e != want {
		t.Fatalf("Add(%d, %d) is %d, want %d", low, high, e, want)
	}
}

func wantCheck(t *testing.T, l []api.Range, want api.Errno) {
	t.Helper()
	if e := acks.Check(l); e != want {
		t.Errorf("Check(%v) is %d, want %d", l, e, want)
	}
	if e := rightness(l); e != want {
		t.Errorf("the test says of %v both %d and %d", l, want, e)
	}
}

// TestExample is promises 8.1 and 8.2 at the chapter's example.
func TestExample(t *testing.T) {
	s := acks.New()
	wantAdd(t, s, 5, 6, api.OK)
	wantAdd(t, s, 8, 8, api.OK)
	wantRanges(t, "with a gap", s, api.Range{Low: 8, High: 8}, api.Range{Low: 5, High: 6})
	wantAdd(t, s, 7, 7, api.OK)
	wantRanges(t, "joined", s, api.Range{Low: 5, High: 8})
	wantAdd(t, s, 1, 1, api.OK)
	wantRanges(t, "below", s, api.Range{Low: 5, High: 8}, api.Range{Low: 1, High: 1})
	s.Drop(6)
	wantRanges(t, "dropped", s, api.Range{Low: 6, High: 8})
	wantCheck(t, []api.Range{{Low: 5, High: 8}, {Low: 4, High: 4}}, api.ErrRange)
}

// TestNoNumbers is promise 8.1 of a set that is new, and of one from which all is dropped.
func TestNoNumbers(t *testing.T) {
	emptied := acks.New()
	wantAdd(t, emptied, 3, 900, api.OK)
	wantAdd(t, emptied, 1000, greatest, api.OK)
	emptied.Drop(math.MaxInt64)
	for _, s := range []*acks.Set{acks.New(), emptied} {
		if s == nil {
			t.Fatal("New is nil")
		}
		for _, n := range farPoints {
			if s.Has(n) {
				t.Errorf("Has(%d) is true without numbers", n)
			}
			s.Drop(n)
			wantRanges(t, "nothing", s)
		}
		wantAdd(t, s, 0, 0, api.OK)
		wantRanges(t, "nought", s, api.Range{})
	}
}

// TestEnds is promise 8.1 of every pair of numbers at the ends, right and wrong, in a set without numbers and in one with some.
func TestEnds(t *testing.T) {
	for i := range farPoints {
		for j := range farPoints {
			s, p := acks.New(), newPlain(farPoints)
			addBoth(t, s, p, i, j)
			holdAgainst(t, "first", s, p)

			s, p = acks.New(), newPlain(farPoints)
			addBoth(t, s, p, 9, 11)
			addBoth(t, s, p, 14, 14)
			addBoth(t, s, p, i, j)
			holdAgainst(t, "third", s, p)
		}
	}
}

// TestWrongEnds is promise 8.1 with R2: ends that are wrong are ErrRange, and change nothing.
func TestWrongEnds(t *testing.T) {
	s := acks.New()
	wantAdd(t, s, 10, 20, api.OK)
	wantAdd(t, s, 30, 40, api.OK)
	want := []api.Range{{Low: 30, High: 40}, {Low: 10, High: 20}}
	for _, c := range [][2]int64{
		{1, 0}, {21, 20}, {25, 24}, {40, 10}, {22, 21}, {greatest, 0}, {greatest, greatest - 1}, {math.MaxInt64, math.MinInt64},
	} {
		wantAdd(t, s, c[0], c[1], api.ErrRange)
		wantRanges(t, "the wrong way round", s, want...)
	}
	for _, n := range wrongNumbers {
		for _, c := range [][2]int64{{n, n}, {n, 0}, {n, 25}, {n, greatest}, {0, n}, {25, n}, {greatest, n}} {
			wantAdd(t, s, c[0], c[1], api.ErrRange)
			wantRanges(t, "wrong", s, want...)
		}
	}
	wantAdd(t, s, 0, greatest, api.OK)
	wantRanges(t, "all", s, api.Range{Low: 0, High: greatest})
	wantAdd(t, s, 0, greatest+1, api.ErrRange)
	wantAdd(t, s, -1, greatest, api.ErrRange)
	wantRanges(t, "all", s, api.Range{Low: 0, High: greatest})
}

// TestBeside is promise 8.1 of a range that lies within another, over it, touches it, or leaves a gap of one number.
func TestBeside(t *testing.T) {
	for _, base := range []int64{0, 1 << 32, greatest - 100} {
		at := func(low, high int64) api.Range { return api.Range{Low: base + low, High: base + high} }
		for _, c := range []struct {
			name string
			add  api.Range
			want []api.Range
		}{
			{"the same", at(40, 60), []api.Range{at(40, 60)}},
			{"within", at(45, 50), []api.Range{at(40, 60)}},
			{"within, at the low end", at(40, 40), []api.Range{at(40, 60)}},
			{"within, at the high end", at(60, 60), []api.Range{at(40, 60)}},
			{"over", at(30, 70), []api.Range{at(30, 70)}},
			{"over the low end", at(30, 40), []api.Range{at(30, 60)}},
			{"over the high end", at(60, 70), []api.Range{at(40, 70)}},
			{"one above", at(61, 61), []api.Range{at(40, 61)}},
			{"one below", at(39, 39), []api.Range{at(39, 60)}},
			{"touching above", at(61, 70), []api.Range{at(40, 70)}},
			{"touching below", at(30, 39), []api.Range{at(30, 60)}},
			{"a gap above", at(62, 62), []api.Range{at(62, 62), at(40, 60)}},
			{"a gap below", at(38, 38), []api.Range{at(40, 60), at(38, 38)}},
			{"far above", at(99, 100), []api.Range{at(99, 100), at(40, 60)}},
			{"far below", at(0, 1), []api.Range{at(40, 60), at(0, 1)}},
		} {
			s := acks.New()
			wantAdd(t, s, base+40, base+60, api.OK)
			for range 2 {
				wantAdd(t, s, c.add.Low, c.add.High, api.OK)
				wantRanges(t, c.name, s, c.want...)
			}
		}
	}
}

// TestSeveral is promise 8.1 of a range that meets several others.
func TestSeveral(t *testing.T) {
	ten := func() *acks.Set {
		s := acks.New()
		for n := int64(10); n <= 50; n += 10 {
			wantAdd(t, s, n, n+2, api.OK)
		}
		return s
	}
	at := func(low, high int64) api.Range { return api.Range{Low: low, High: high} }
	for _, c := range []struct {
		name string
		add  api.Range
		want []api.Range
	}{
		{"over two whole", at(20, 32), []api.Range{at(50, 52), at(40, 42), at(20, 32), at(10, 12)}},
		{"from within to within", at(21, 41), []api.Range{at(50, 52), at(20, 42), at(10, 12)}},
		{"touching both", at(23, 29), []api.Range{at(50, 52), at(40, 42), at(20, 32), at(10, 12)}},
		{"touching the lower", at(23, 28), []api.Range{at(50, 52), at(40, 42), at(30, 32), at(20, 28), at(10, 12)}},
		{"touching the higher", at(24, 29), []api.Range{at(50, 52), at(40, 42), at(24, 32), at(20, 22), at(10, 12)}},
		{"touching none", at(24, 28), []api.Range{at(50, 52), at(40, 42), at(30, 32), at(24, 28), at(20, 22), at(10, 12)}},
		{"over all", at(0, 60), []api.Range{at(0, 60)}},
		{"just over all", at(10, 52), []api.Range{at(10, 52)}},
		{"over all but a gap", at(14, 48), []api.Range{at(50, 52), at(14, 48), at(10, 12)}},
		{"over all that there may be", at(0, greatest), []api.Range{at(0, greatest)}},
	} {
		s := ten()
		for range 2 {
			wantAdd(t, s, c.add.Low, c.add.High, api.OK)
			wantRanges(t, c.name, s, c.want...)
		}
	}
}

// TestEveryThree is promises 8.1 and 8.3 of three ranges, whichever they are, and of a Drop behind them.
func TestEveryThree(t *testing.T) {
	const count = 7
	var pairs [][2]int
	for i := range count {
		for j := i; j < count; j++ {
			pairs = append(pairs, [2]int{i, j})
		}
	}
	for _, points := range [][]int64{row(0, count), row(greatest-count+1, count)} {
		for _, a := range pairs {
			for _, b := range pairs {
				for k, c := range pairs {
					s, p := acks.New(), newPlain(points)
					addBoth(t, s, p, a[0], a[1])
					addBoth(t, s, p, b[0], b[1])
					addBoth(t, s, p, c[0], c[1])
					holdAgainst(t, "three", s, p)
					dropBoth(s, p, k%count)
					holdAgainst(t, "dropped", s, p)
				}
			}
		}
	}
}

// spread is a set of that many ranges of two numbers, each ten above the next.
func spread(t *testing.T, base int64, count int) (*acks.Set, *plain) {
	t.Helper()
	s, p := acks.New(), newPlain(row(base, 200))
	for i := range count {
		addBoth(t, s, p, 10+10*i, 11+10*i)
	}
	if l := s.Ranges(); len(l) != count {
		t.Fatalf("%d ranges, want %d", len(l), count)
	}
	holdAgainst(t, "spread", s, p)
	return s, p
}

// TestSeventeenth is promise 8.1 of a range too many, wherever it lies: the lowest goes, be it the one that was added.
func TestSeventeenth(t *testing.T) {
	for _, base := range append(bases, greatest-199) {
		s, p := spread(t, base, 16)
		before := s.Ranges()
		addBoth(t, s, p, 180, 190)
		want := append([]api.Range{{Low: base + 180, High: base + 190}}, before[:15]...)
		wantRanges(t, "above all", s, want...)
		holdAgainst(t, "above all", s, p)

		s, p = spread(t, base, 16)
		addBoth(t, s, p, 0, 7)
		wantRanges(t, "below all", s, before...)
		holdAgainst(t, "below all", s, p)

		for i := range 15 {
			s, p = spread(t, base, 16)
			addBoth(t, s, p, 15+10*i, 16+10*i)
			r := api.Range{Low: base + 15 + 10*int64(i), High: base + 16 + 10*int64(i)}
			want := slices.Insert(slices.Clone(before), 15-i, r)
			wantRanges(t, "between", s, want[:16]...)
			holdAgainst(t, "between", s, p)
		}
	}
}

// TestJoinedAtSixteen is promise 8.1: a range that meets others makes none too many, and so takes nothing away.
func TestJoinedAtSixteen(t *testing.T) {
	for _, base := range append(bases, greatest-199) {
		for i := range 15 {
			s, p := spread(t, base, 16)
			before := s.Ranges()
			addBoth(t, s, p, 12+10*i, 19+10*i)
			joined := api.Range{Low: base + 10 + 10*int64(i), High: base + 21 + 10*int64(i)}
			wantRanges(t, "joins two", s, slices.Replace(before, 14-i, 16-i, joined)...)
			addBoth(t, s, p, 0, 0)
			if l := s.Ranges(); len(l) != 16 || l[15] != (api.Range{Low: base, High: base}) {
				t.Fatalf("the lowest of sixteen was lost: %v", l)
			}
			holdAgainst(t, "joins two", s, p)
		}
		for i := range 16 {
			for _, c := range [][2]int{{10, 11}, {8, 9}, {12, 14}, {9, 12}, {11, 11}} {
				s, p := spread(t, base, 16)
				addBoth(t, s, p, c[0]+10*i, c[1]+10*i)
				if l := s.Ranges(); len(l) != 16 {
					t.Fatalf("%d ranges, want 16", len(l))
				}
				holdAgainst(t, "grows one", s, p)
			}
		}
	}
}

// TestTakenAwayIsGone is promise 8.1: what a range too many took away is not in the set, though there is room again.
func TestTakenAwayIsGone(t *testing.T) {
	s, p := acks.New(), newPlain(row(0, 200))
	for i := range 40 {
		addBoth(t, s, p, 5*i, 5*i+1)
		holdAgainst(t, "rising", s, p)
	}
	addBoth(t, s, p, 150, 199)
	holdAgainst(t, "joined", s, p)
	for i := range 20 {
		addBoth(t, s, p, 5*i+3, 5*i+3)
		holdAgainst(t, "between what was lost", s, p)
	}
}

// TestSeventeenInAnyOrder is promise 8.1: of seventeen ranges that come in some order just the lowest is not there.
func TestSeventeenInAnyOrder(t *testing.T) {
	r := rand.New(rand.NewSource(1))
	for range 100 {
		s := acks.New()
		for _, i := range r.Perm(17) {
			wantAdd(t, s, 4*int64(i), 4*int64(i)+2, api.OK)
		}
		var want []api.Range
		for i := int64(16); i > 0; i-- {
			want = append(want, api.Range{Low: 4 * i, High: 4*i + 2})
		}
		wantRanges(t, "seventeen", s, want...)
		if s.Has(0) || s.Has(2) {
			t.Fatal("the lowest range is there")
		}
	}
}

// TestDrop is promise 8.1 of Drop at every place of a set: below all, within a range, at its ends, between two, above all.
func TestDrop(t *testing.T) {
	for _, base := range append(bases, greatest-199) {
		for _, count := range []int{1, 2, 5, 16} {
			for i := range 200 {
				s, p := spread(t, base, count)
				dropBoth(s, p, i)
				holdAgainst(t, "dropped", s, p)
				dropBoth(s, p, i)
				dropBoth(s, p, i-i/3)
				holdAgainst(t, "dropped lower", s, p)
			}
		}
	}
	at := func(low, high int64) api.Range { return api.Range{Low: low, High: high} }
	for _, c := range []struct {
		below int64
		want  []api.Range
	}{
		{math.MinInt64, []api.Range{at(30, 40), at(10, 20)}}, {-1, []api.Range{at(30, 40), at(10, 20)}},
		{0, []api.Range{at(30, 40), at(10, 20)}}, {9, []api.Range{at(30, 40), at(10, 20)}},
		{10, []api.Range{at(30, 40), at(10, 20)}}, {11, []api.Range{at(30, 40), at(11, 20)}},
		{20, []api.Range{at(30, 40), at(20, 20)}}, {21, []api.Range{at(30, 40)}}, {29, []api.Range{at(30, 40)}},
		{30, []api.Range{at(30, 40)}}, {31, []api.Range{at(31, 40)}}, {40, []api.Range{at(40, 40)}}, {41, nil},
		{greatest, nil}, {greatest + 1, nil}, {math.MaxInt64, nil},
	} {
		s := acks.New()
		wantAdd(t, s, 10, 20, api.OK)
		wantAdd(t, s, 30, 40, api.OK)
		s.Drop(c.below)
		wantRanges(t, "dropped", s, c.want...)
	}
}

// TestDropAtTheEnds is promise 8.1 of Drop in a set that has all numbers.
func TestDropAtTheEnds(t *testing.T) {
	for _, below := range farPoints {
		s := acks.New()
		wantAdd(t, s, 0, greatest, api.OK)
		s.Drop(below)
		if below > greatest {
			wantRanges(t, "all dropped", s)
			continue
		}
		wantRanges(t, "dropped", s, api.Range{Low: max(0, below), High: greatest})
	}
}

// TestAddBehindDrop is promise 8.1: what was dropped may be added again, and only what is added comes back.
func TestAddBehindDrop(t *testing.T) {
	for i := range 200 {
		s, p := spread(t, 0, 16)
		dropBoth(s, p, i)
		addBoth(t, s, p, i/2, i/2+3)
		holdAgainst(t, "below", s, p)
		if i > 0 {
			addBoth(t, s, p, i-1, i-1)
			holdAgainst(t, "one below the drop", s, p)
		}
		addBoth(t, s, p, 0, 199)
		holdAgainst(t, "all", s, p)
	}
	s := acks.New()
	wantAdd(t, s, 5, 9, api.OK)
	s.Drop(7)
	wantAdd(t, s, 5, 5, api.OK)
	wantRanges(t, "with a gap", s, api.Range{Low: 7, High: 9}, api.Range{Low: 5, High: 5})
	s.Drop(100)
	wantAdd(t, s, 6, 6, api.OK)
	wantRanges(t, "alone", s, api.Range{Low: 6, High: 6})
}

// fall is that many right ranges below a number, with gaps of one number.
func fall(high int64, count int) []api.Range {
	l := make([]api.Range, count)
	for i := range l {
		l[i] = api.Range{Low: high - 2, High: high}
		high -= 4
	}
	return l
}

// TestCheckRight is promise 8.2 of ranges that are right, from none to sixteen.
func TestCheckRight(t *testing.T) {
	wantCheck(t, nil, api.OK)
	wantCheck(t, []api.Range{}, api.OK)
	for count := range 17 {
		for _, high := range []int64{62, 1000, 1<<32 + 5, greatest} {
			wantCheck(t, fall(high, count), api.OK)
		}
	}
	for _, l := range [][]api.Range{
		{{Low: 0, High: 0}}, {{Low: 0, High: greatest}}, {{Low: greatest, High: greatest}},
		{{Low: 2, High: 2}, {Low: 0, High: 0}}, {{Low: greatest, High: greatest}, {Low: 0, High: greatest - 2}},
		{{Low: 7, High: 9}, {Low: 5, High: 5}, {Low: 0, High: 3}},
	} {
		wantCheck(t, l, api.OK)
	}
}

// TestCheckLong is promise 8.2 with R2: more than sixteen are ErrLong, whatever else is wrong.
func TestCheckLong(t *testing.T) {
	for _, count := range []int{17, 18, 100, 70000} {
		wantCheck(t, fall(1<<20, count), api.ErrLong)
		wantCheck(t, make([]api.Range, count), api.ErrLong)
		wrong := fall(1<<20, count)
		wrong[0] = api.Range{Low: 5, High: -1}
		wantCheck(t, wrong, api.ErrLong)
		wrong = fall(1<<20, count)
		wrong[count-1] = wrong[0]
		wantCheck(t, wrong, api.ErrLong)
	}
	wantCheck(t, make([]api.Range, 16), api.ErrRange)
	wantCheck(t, make([]api.Range, 16, 100), api.ErrRange)
}

// TestCheckRange is promise 8.2 of ranges that rise, touch, overlap, lie the wrong way round, or are out of the numbers.
func TestCheckRange(t *testing.T) {
	for _, l := range [][]api.Range{
		{{Low: 1, High: 0}}, {{Low: 9, High: 5}}, {{Low: greatest, High: 0}},
		{{Low: 5, High: 8}, {Low: 4, High: 4}}, {{Low: 5, High: 8}, {Low: 0, High: 4}},
		{{Low: 5, High: 8}, {Low: 5, High: 8}}, {{Low: 5, High: 8}, {Low: 2, High: 5}}, {{Low: 5, High: 8}, {Low: 6, High: 7}},
		{{Low: 5, High: 8}, {Low: 0, High: 9}}, {{Low: 5, High: 8}, {Low: 0, High: 100}},
		{{Low: 5, High: 8}, {Low: 9, High: 9}}, {{Low: 5, High: 8}, {Low: 10, High: 12}},
		{{Low: 9, High: 9}, {Low: 7, High: 5}}, {{Low: 9, High: 9}, {Low: 7, High: 6}},
		{{Low: 9, High: 9}, {Low: 5, High: 7}, {Low: 4, High: 4}}, {{Low: 9, High: 9}, {Low: 5, High: 7}, {Low: 8, High: 8}},
		{{Low: 0, High: 0}, {Low: 0, High: 0}}, {{Low: 1, High: 1}, {Low: 0, High: 0}}, {{Low: 0, High: 5}, {Low: -2, High: -2}},
		{{Low: 2, High: 5}, {Low: -1, High: 0}}, {{Low: 0, High: greatest}, {Low: 0, High: greatest}},
		{{Low: 0, High: 5}, {Low: math.MinInt64, High: math.MinInt64}}, {{Low: math.MinInt64, High: 5}, {Low: 0, High: math.MaxInt64}},
		{{Low: greatest, High: greatest}, {Low: 0, High: greatest - 1}}, {{Low: greatest, High: greatest + 1}, {Low: 0, High: 1}},
	} {
		wantCheck(t, l, api.ErrRange)
	}
	for _, n := range wrongNumbers {
		for _, l := range [][]api.Range{
			{{Low: n, High: n}}, {{Low: n, High: 5}}, {{Low: 5, High: n}}, {{Low: 0, High: n}}, {{Low: n, High: greatest}},
			{{Low: 9, High: 9}, {Low: n, High: n}}, {{Low: 9, High: 9}, {Low: n, High: 5}}, {{Low: 9, High: 9}, {Low: 5, High: n}},
			{{Low: n, High: n}, {Low: 5, High: 5}}, {{Low: 9, High: n}, {Low: 5, High: 5}}, {{Low: n, High: 9}, {Low: 5, High: 5}},
		} {
			wantCheck(t, l, api.ErrRange)
		}
	}
}

// TestCheckEachPlace is promise 8.2: one wrong range is found at every place, in as many as there may be.
func TestCheckEachPlace(t *testing.T) {
	for count := 1; count <= 16; count++ {
		for i := range count {
			for _, change := range []func(r *api.Range){
				func(r *api.Range) { r.Low, r.High = r.High, r.Low },
				func(r *api.Range) { r.Low = -1 },
				func(r *api.Range) { r.Low, r.High = -2, -2 },
				func(r *api.Range) { r.High = greatest + 1 },
			} {
				l := fall(greatest, count)
				change(&l[i])
				wantCheck(t, l, api.ErrRange)
			}
			if i == 0 {
				continue
			}
			l := fall(greatest, count)
			l[i].High++
			wantCheck(t, l, api.ErrRange)
			l = fall(greatest, count)
			l[i-1], l[i] = l[i], l[i-1]
			wantCheck(t, l, api.ErrRange)
		}
	}
}

// TestCheckEveryThree is promise 8.2 of all lists of up to three ranges of few numbers.
func TestCheckEveryThree(t *testing.T) {
	var all []api.Range
	for low := int64(-1); low < 6; low++ {
		for high := int64(-1); high < 6; high++ {
			all = append(all, api.Range{Low: low, High: high})
		}
	}
	for _, a := range all {
		for _, b := range all {
			for _, c := range all {
				l := []api.Range{a, b, c}
				for count := 1; count <= 3; count++ {
					if e, want := acks.Check(l[:count]), rightness(l[:count]); e != want {
						t.Fatalf("Check(%v) is %d, want %d", l[:count], e, want)
					}
				}
			}
		}
	}
}

// TestCheckLeavesAlone is promise 8.2 with R4: neither the list nor the room behind its end is changed.
func TestCheckLeavesAlone(t *testing.T) {
	for _, count := range []int{0, 1, 15, 16, 17, 20} {
		whole := fall(1000, 20)
		acks.Check(whole[:count])
		if !slices.Equal(whole, fall(1000, 20)) {
			t.Errorf("Check changed a list of %d", count)
		}
	}
}

// TestRangesAreNew is promise 8.1 with R4: ranges that were handed out are the caller's own.
func TestRangesAreNew(t *testing.T) {
	for _, count := range []int{1, 2, 7, 15, 16} {
		s, p := spread(t, 1000, count)
		one, other := s.Ranges(), s.Ranges()
		for i := range one {
			one[i] = api.Range{Low: -7, High: -7}
		}
		_ = append(one[:0:cap(one)], api.Range{Low: 3, High: 3})
		clear(one[:cap(one)])
		holdAgainst(t, "changed by the caller", s, p)
		want, _ := p.ranges()
		if !slices.Equal(other, want) {
			t.Fatalf("two answers share memory: %v", other)
		}
		addBoth(t, s, p, 100, 199)
		addBoth(t, s, p, 0, 1)
		dropBoth(s, p, 55)
		addBoth(t, s, p, 0, 0)
		if !slices.Equal(other, want) {
			t.Fatalf("an answer changes with the set: %v", other)
		}
		holdAgainst(t, "used on", s, p)
	}
}

// TestAskingChangesNothing is promise 8.1: Has and Ranges tell the same as often as they are asked.
func TestAskingChangesNothing(t *testing.T) {
	for _, count := range []int{0, 1, 9, 16} {
		s, p := spread(t, 0, count)
		for range 3 {
			for _, n := range farPoints {
				s.Has(n)
			}
			holdAgainst(t, "asked often", s, p)
		}
	}
}

// TestTwoSets is promise 8.1 with R4: sets that are used in turn share nothing.
func TestTwoSets(t *testing.T) {
	a, b := acks.New(), acks.New()
	if a == b {
		t.Fatal("New answered one set twice")
	}
	p, q := newPlain(row(0, 90)), newPlain(row(0, 90))
	addBoth(t, a, p, 4, 9)
	holdAgainst(t, "the other is new", b, q)
	r := rand.New(rand.NewSource(2))
	for range 500 {
		step(t, r, a, p)
		step(t, r, b, q)
		holdAgainst(t, "one", a, p)
		holdAgainst(t, "other", b, q)
	}
	wantRanges(t, "later", acks.New())
}

// step adds or drops, mostly little.
func step(t *testing.T, r *rand.Rand, s *acks.Set, p *plain) {
	t.Helper()
	i := r.Intn(len(p.points))
	switch r.Intn(30) {
	case 0:
		dropBoth(s, p, i)
	case 1:
		addBoth(t, s, p, i, r.Intn(len(p.points)))
	case 2:
		dropBoth(s, p, i/4)
	default:
		addBoth(t, s, p, i, min(i+r.Intn(2), len(p.points)-1))
	}
}

// TestRowsOfSteps is promises 8.1 and 8.3 over long rows: the ranges are right all the way, and have just the numbers.
func TestRowsOfSteps(t *testing.T) {
	r := rand.New(rand.NewSource(3))
	for _, points := range [][]int64{
		row(0, 60), row(0, 150), row(1<<32-70, 140), row(greatest-119, 120), row(greatest-80, 90), row(-5, 70), farPoints,
	} {
		for range 20 {
			s, p := acks.New(), newPlain(points)
			for range 200 {
				step(t, r, s, p)
				holdAgainst(t, "row", s, p)
			}
		}
	}
}

// TestAnyOrder is promise 8.3: as long as there is no range too many, ranges make the same set in whatever order they come.
func TestAnyOrder(t *testing.T) {
	r := rand.New(rand.NewSource(4))
	for _, base := range append(bases, greatest-99) {
		for range 60 {
			// Of sixteen that are added there are never more than sixteen ranges.
			var all []api.Range
			for range 16 {
				low := base + int64(r.Intn(95))
				all = append(all, api.Range{Low: low, High: low + int64(r.Intn(5))})
			}
			first := acks.New()
			for _, a := range all {
				wantAdd(t, first, a.Low, a.High, api.OK)
			}
			for n := base; n < base+100; n++ {
				want := slices.ContainsFunc(all, func(a api.Range) bool { return a.Low <= n && n <= a.High })
				if first.Has(n) != want {
					t.Fatalf("Has(%d) is %v, want %v", n, !want, want)
				}
			}
			for range 4 {
				s := acks.New()
				for _, i := range r.Perm(16) {
					wantAdd(t, s, all[i].Low, all[i].High, api.OK)
				}
				wantRanges(t, "another order", s, first.Ranges()...)
			}
		}
	}
}

// TestNumberByNumber is promise 8.3 of a row of numbers, that come from below, from above, and mixed.
func TestNumberByNumber(t *testing.T) {
	for _, base := range append(bases, greatest-29) {
		up, down, mixed := acks.New(), acks.New(), acks.New()
		for i := range int64(30) {
			wantAdd(t, up, base+i, base+i, api.OK)
			wantRanges(t, "up", up, api.Range{Low: base, High: base + i})
			wantAdd(t, down, base+29-i, base+29-i, api.OK)
			wantRanges(t, "down", down, api.Range{Low: base + 29 - i, High: base + 29})
		}
		for i := range int64(30) {
			n := base + i*7%30
			wantAdd(t, mixed, n, n, api.OK)
		}
		wantRanges(t, "mixed", mixed, api.Range{Low: base, High: base + 29})
	}
}

// FuzzSteps holds promises 8.1 and 8.3 at any row of steps.
func FuzzSteps(f *testing.F) {
	f.Add(byte(0), []byte{1, 5, 6, 1, 8, 8, 1, 7, 7, 1, 1, 1, 0, 6, 0})
	f.Add(byte(1), []byte{1, 10, 12, 1, 14, 16, 1, 18, 20, 1, 0, 4, 0, 15, 0, 1, 13, 13})
	f.Add(byte(2), []byte{1, 0, 24, 0, 9, 0, 1, 4, 20, 1, 20, 4, 1, 7, 8})
	f.Fuzz(func(t *testing.T, where byte, b []byte) {
		points := [][]int64{row(0, 60), row(greatest-59, 60), farPoints, row(1<<40, 120)}[where%4]
		s, p := acks.New(), newPlain(points)
		for ; len(b) >= 3; b = b[3:] {
			i, j := int(b[1])%len(points), int(b[2])%len(points)
			switch {
			case b[0]%8 == 0:
				dropBoth(s, p, i)
			case b[0]%8 == 1:
				addBoth(t, s, p, i, j)
			default:
				addBoth(t, s, p, i, min(i+j%3, len(points)-1))
			}
			wantRight(t, s.Ranges())
		}
		holdAgainst(t, "row", s, p)
	})
}

// FuzzCheck holds promise 8.2 at any ranges: those near one another, and far ones.
func FuzzCheck(f *testing.F) {
	f.Add([]byte{0, 9, 9, 0, 3, 1, 0, 2, 2}, int64(50))
	f.Add([]byte{0, 2, 2, 1, 4, 4}, greatest)
	f.Add(make([]byte, 51), int64(1<<40))
	f.Fuzz(func(t *testing.T, b []byte, high int64) {
		var l []api.Range
		for ; len(b) >= 3; b = b[3:] {
			r := api.Range{Low: high - int64(b[2]%8), High: high}
			if b[0]%8 == 7 {
				r = api.Range{Low: farPoints[int(b[1])%len(farPoints)], High: farPoints[int(b[2])%len(farPoints)]}
			}
			l = append(l, r)
			high = r.Low - int64(b[1]%5)
		}
		if e, want := acks.Check(l), rightness(l); e != want {
			t.Fatalf("Check(%v) is %d, want %d", l, e, want)
		}
	})
}
