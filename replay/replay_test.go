package replay_test

import (
	"math"
	"math/rand"
	"testing"

	"vizard/api"
	"vizard/replay"
)

const greatest = int64(1<<62 - 1)

// wrongNumbers are those that no window takes.
var wrongNumbers = []int64{-1, -2, -63, -64, -65, math.MinInt64, math.MinInt64 + 1, greatest + 1, greatest + 2, greatest + 64, math.MaxInt64 - 1, math.MaxInt64}

// edgeNumbers are right ones at the ends of what is right, of a window, and of the sizes of numbers.
var edgeNumbers = []int64{0, 1, 2, 31, 32, 33, 61, 62, 63, 64, 65, 66, 127, 128, 129, 1<<31 - 1, 1 << 31, 1<<32 - 1, 1 << 32, 1<<61 + 5, greatest - 65, greatest - 64, greatest - 63, greatest - 1, greatest}

// rises are by how much a greatest may rise.
var rises = []int64{1, 2, 31, 32, 33, 62, 63, 64, 65, 66, 127, 128, 129, 256, 1 << 16, 1 << 32, 1<<32 + 1, 1 << 40, 1 << 61}

// past is the whole row of numbers that came: it forgets none of them.
type past struct {
	came map[int64]bool
	top  int64
}

func newPast() *past {
	return &past{came: map[int64]bool{}}
}

func (p *past) check(n int64) api.Errno {
	switch {
	case n < 0 || n > greatest:
		return api.ErrRange
	case p.came[n], len(p.came) > 0 && n <= p.top-64:
		return api.ErrOld
	}
	return api.OK
}

func (p *past) see(n int64) api.Errno {
	e := p.check(n)
	if e == api.OK {
		p.top = max(p.top, n)
		p.came[n] = true
	}
	return e
}

// probes are numbers by which a window is told from one that saw other numbers.
func (p *past) probes() []int64 {
	l := append(append([]int64{}, wrongNumbers...), edgeNumbers...)
	for d := int64(-130); d <= 130; d++ {
		l = append(l, p.top+d)
	}
	return l
}

// holdAgainst asks a window all that may be asked without a change.
func holdAgainst(t *testing.T, name string, w *replay.Window, p *past) {
	t.Helper()
	if n, ok := w.Top(); n != p.top || ok != (len(p.came) > 0) {
		t.Fatalf("%s: Top is %d, %v; want %d, %v", name, n, ok, p.top, len(p.came) > 0)
	}
	for _, n := range p.probes() {
		if e, want := w.Check(n), p.check(n); e != want {
			t.Fatalf("%s: top %d: Check(%d) is %d, want %d", name, p.top, n, e, want)
		}
	}
}

// seeBoth lets a number come to a window and to its past.
func seeBoth(t *testing.T, w *replay.Window, p *past, n int64) {
	t.Helper()
	if e, want := w.See(n), p.see(n); e != want {
		t.Fatalf("top %d: See(%d) is %d, want %d", p.top, n, e, want)
	}
}

// wantSee lets a number come, and names what is wanted.
func wantSee(t *testing.T, w *replay.Window, n int64, want api.Errno) {
	t.Helper()
	if e := w.Check(n); e != want {
		t.Errorf("Check(%d) is %d, want %d", n, e, want)
	}
	if e := w.See(n); e != want {
		t.Errorf("See(%d) is %d, want %d", n, e, want)
	}
}

func wantTop(t *testing.T, w *replay.Window, want int64, some bool) {
	t.Helper()
	if n, ok := w.Top(); n != want || ok != some {
		t.Errorf("Top is %d, %v; want %d, %v", n, ok, want, some)
	}
}

// TestExample is promise 7.1 at the chapter's example.
func TestExample(t *testing.T) {
	w := replay.New()
	wantTop(t, w, 0, false)
	for _, c := range []struct {
		n   int64
		e   api.Errno
		top int64
	}{{5, api.OK, 5}, {3, api.OK, 5}, {5, api.ErrOld, 5}, {100, api.OK, 100}, {36, api.ErrOld, 100}, {37, api.OK, 100}} {
		wantSee(t, w, c.n, c.e)
		wantTop(t, w, c.top, true)
	}
}

// TestNothingSeen is promise 7.1 of a window that is new: each right number may come, and none is the greatest.
func TestNothingSeen(t *testing.T) {
	w := replay.New()
	if w == nil {
		t.Fatal("New is nil")
	}
	wantTop(t, w, 0, false)
	for _, n := range edgeNumbers {
		if e := w.Check(n); e != api.OK {
			t.Errorf("Check(%d) is %d, want OK", n, e)
		}
	}
	for _, n := range wrongNumbers {
		wantSee(t, w, n, api.ErrRange)
	}
	wantTop(t, w, 0, false)
	holdAgainst(t, "new", w, newPast())
}

// TestFirst is promise 7.1 of the first number that comes, whichever it is, and of the same once more.
func TestFirst(t *testing.T) {
	for _, n := range edgeNumbers {
		w, p := replay.New(), newPast()
		wantSee(t, w, n, api.OK)
		p.see(n)
		wantTop(t, w, n, true)
		holdAgainst(t, "first", w, p)
		for range 3 {
			wantSee(t, w, n, api.ErrOld)
			wantTop(t, w, n, true)
		}
		holdAgainst(t, "again", w, p)
	}
}

// TestZeroSeen is promise 7.1 of 0: before it comes Top answers 0 too, but with false, and what came is told apart.
func TestZeroSeen(t *testing.T) {
	w := replay.New()
	wantTop(t, w, 0, false)
	wantSee(t, w, 0, api.OK)
	wantTop(t, w, 0, true)
	wantSee(t, w, 0, api.ErrOld)
	wantTop(t, w, 0, true)
	wantSee(t, w, 1, api.OK)
	wantSee(t, w, 0, api.ErrOld)
	wantTop(t, w, 1, true)

	w = replay.New()
	wantSee(t, w, 63, api.OK)
	wantSee(t, w, 0, api.OK)
	wantSee(t, w, 0, api.ErrOld)
	wantTop(t, w, 63, true)

	w = replay.New()
	wantSee(t, w, 64, api.OK)
	wantSee(t, w, 0, api.ErrOld)
	wantSee(t, w, 1, api.OK)
	wantTop(t, w, 64, true)
}

// TestRange is promise 7.1: a wrong number is ErrRange whatever came, also where it is far below the greatest as well.
func TestRange(t *testing.T) {
	for _, first := range edgeNumbers {
		w, p := replay.New(), newPast()
		seeBoth(t, w, p, first)
		for _, n := range wrongNumbers {
			wantSee(t, w, n, api.ErrRange)
			wantTop(t, w, first, true)
		}
		holdAgainst(t, "wrong numbers", w, p)
	}
	w := replay.New()
	wantSee(t, w, greatest+1, api.ErrRange)
	wantSee(t, w, greatest, api.OK)
	wantSee(t, w, greatest+1, api.ErrRange)
	wantSee(t, w, 0, api.ErrOld)
	wantSee(t, w, -1, api.ErrRange)
}

// TestBelow is promises 7.1 and 7.2 of numbers below the greatest, that came ahead of it, behind it, or never.
func TestBelow(t *testing.T) {
	for _, top := range []int64{65, 66, 100, 128, 1 << 20, 1<<32 + 3, 1 << 61, greatest - 1, greatest} {
		for below := int64(1); below <= 65; below++ {
			late := api.OK
			if below >= 64 {
				late = api.ErrOld
			}
			w := replay.New()
			wantSee(t, w, top, api.OK)
			wantSee(t, w, top-below, late)
			wantSee(t, w, top-below, api.ErrOld)
			wantTop(t, w, top, true)

			w = replay.New()
			wantSee(t, w, top-below, api.OK)
			wantSee(t, w, top, api.OK)
			wantSee(t, w, top-below, api.ErrOld)
			wantSee(t, w, top, api.ErrOld)
			wantTop(t, w, top, true)
		}
	}
}

// TestEachBelowOnce is promise 7.2: behind a greatest each of the 63 below it comes once, in any order, and no other below.
func TestEachBelowOnce(t *testing.T) {
	r := rand.New(rand.NewSource(1))
	for _, top := range []int64{0, 1, 2, 31, 62, 63, 64, 65, 1000, 1<<40 + 7, greatest} {
		w, p := replay.New(), newPast()
		seeBoth(t, w, p, top)
		taken := 0
		for range 2 {
			for _, d := range r.Perm(80) {
				if n := top - int64(d); n >= 0 && w.See(n) == api.OK {
					p.see(n)
					taken++
				}
			}
			wantTop(t, w, top, true)
		}
		if want := int(min(top, 63)); taken != want {
			t.Errorf("top %d: %d numbers below it came, want %d", top, taken, want)
		}
		holdAgainst(t, "each below", w, p)
	}
}

// TestSmallTop is promise 7.1 of a greatest below 64: all numbers down to 0 are remembered.
func TestSmallTop(t *testing.T) {
	for top := int64(0); top < 64; top++ {
		w, p := replay.New(), newPast()
		seeBoth(t, w, p, top)
		for n := top; n >= 0; n-- {
			if n%3 == 0 {
				seeBoth(t, w, p, n)
			}
		}
		holdAgainst(t, "small", w, p)
		for n := int64(0); n <= top; n++ {
			seeBoth(t, w, p, n)
			wantSee(t, w, n, api.ErrOld)
		}
		wantTop(t, w, top, true)
		holdAgainst(t, "small and full", w, p)
	}
}

// patterns are sets of numbers below a greatest, told by bits.
var patterns = []uint64{0, 1, 2, 3, 1 << 62, 1 << 63, 1<<63 | 1, 1<<32 - 1, ^uint64(1<<32 - 1), 0x5555555555555555, 0xaaaaaaaaaaaaaaaa, 0xfedcba9876543210, math.MaxUint64 - 1, math.MaxUint64}

// filled is a window and its past with that greatest and that pattern below it.
func filled(t *testing.T, top int64, pattern uint64) (*replay.Window, *past) {
	t.Helper()
	w, p := replay.New(), newPast()
	seeBoth(t, w, p, top)
	for d := range int64(64) {
		if pattern>>d&1 == 1 && top-d >= 0 {
			seeBoth(t, w, p, top-d)
		}
	}
	return w, p
}

// TestRise is promises 7.1 and 7.2 of a greatest that rises: what came below it is still known, as far as it reaches.
func TestRise(t *testing.T) {
	for _, top := range []int64{0, 5, 63, 64, 200, 1<<32 - 1, 1 << 60} {
		for _, pattern := range patterns {
			for _, rise := range rises {
				w, p := filled(t, top, pattern)
				holdAgainst(t, "filled", w, p)
				seeBoth(t, w, p, top+rise)
				wantTop(t, w, top+rise, true)
				holdAgainst(t, "risen", w, p)
			}
		}
	}
}

// TestRiseToTheEnd is promise 7.1 of rises up to the greatest number of all.
func TestRiseToTheEnd(t *testing.T) {
	for _, below := range []int64{1, 2, 62, 63, 64, 65, 1 << 32, 1 << 61, greatest - 1, greatest} {
		w, p := filled(t, greatest-below, math.MaxUint64)
		seeBoth(t, w, p, greatest)
		wantTop(t, w, greatest, true)
		holdAgainst(t, "end", w, p)
		wantSee(t, w, greatest, api.ErrOld)
		wantSee(t, w, greatest+1, api.ErrRange)
	}
}

// TestRowOfRises is promise 7.1 of a greatest that rises by one many times, and of one that jumps: none comes twice.
func TestRowOfRises(t *testing.T) {
	w, p := replay.New(), newPast()
	for n := range int64(300) {
		seeBoth(t, w, p, n)
		wantTop(t, w, n, true)
		holdAgainst(t, "one by one", w, p)
	}
	w, p = replay.New(), newPast()
	n := int64(0)
	for _, rise := range rises {
		for range 2 {
			n = min(n+rise, greatest-200)
			seeBoth(t, w, p, n)
			seeBoth(t, w, p, n-min(n, 7))
			holdAgainst(t, "by jumps", w, p)
		}
	}
}

// TestCheckChangesNothing is promise 7.1: Check tells the same as often as it is asked, and See takes what it let through.
func TestCheckChangesNothing(t *testing.T) {
	for _, top := range []int64{0, 10, 64, 1000, greatest} {
		w, p := filled(t, top, 0x5555555555555555)
		for range 3 {
			holdAgainst(t, "asked often", w, p)
		}
		for _, n := range p.probes() {
			w, p := filled(t, top, 0x5555555555555555)
			for range 5 {
				w.Check(n)
				wantTop(t, w, top, true)
			}
			seeBoth(t, w, p, n)
		}
	}
	w := replay.New()
	for range 5 {
		for _, n := range append(append([]int64{}, edgeNumbers...), wrongNumbers...) {
			w.Check(n)
			wantTop(t, w, 0, false)
		}
	}
	wantSee(t, w, 0, api.OK)
	wantTop(t, w, 0, true)
}

// TestRefusedChangesNothing is promise 7.1 with R2: a number that See refuses leaves all as it was.
func TestRefusedChangesNothing(t *testing.T) {
	for _, top := range []int64{0, 10, 63, 64, 65, 1000, greatest} {
		for _, pattern := range patterns {
			w, p := filled(t, top, pattern)
			for _, n := range p.probes() {
				if want := p.check(n); want != api.OK {
					wantSee(t, w, n, want)
					wantTop(t, w, top, true)
				}
			}
			holdAgainst(t, "refused", w, p)
		}
	}
}

// TestTwoWindows is promise 7.1 with R4: windows that are used in turn share nothing.
func TestTwoWindows(t *testing.T) {
	v, w := replay.New(), replay.New()
	if v == w {
		t.Fatal("New answered one window twice")
	}
	p, q := newPast(), newPast()
	seeBoth(t, v, p, 100)
	holdAgainst(t, "the other is new", w, q)
	r := rand.New(rand.NewSource(2))
	for range 400 {
		seeBoth(t, v, p, int64(r.Intn(500)))
		seeBoth(t, w, q, 1<<40+int64(r.Intn(500)))
		holdAgainst(t, "one", v, p)
		holdAgainst(t, "other", w, q)
	}
	holdAgainst(t, "later", replay.New(), newPast())
}

// nextNumber is a number that hangs on the seed: mostly one near the greatest, at times one far off or wrong.
func nextNumber(r *rand.Rand, top int64) int64 {
	switch r.Intn(40) {
	case 0:
		return top + int64(1)<<r.Intn(20)
	case 1:
		return wrongNumbers[r.Intn(len(wrongNumbers))]
	case 2:
		return top - 64 + int64(r.Intn(3)) - 1
	case 3:
		return top + 62 + int64(r.Intn(5))
	}
	return top - 70 + int64(r.Intn(74))
}

// TestNoneTwice is promise 7.2 over long rows: each number comes at most once, and what is near comes just if it did not.
func TestNoneTwice(t *testing.T) {
	r := rand.New(rand.NewSource(3))
	for range 40 {
		w, p := replay.New(), newPast()
		times := map[int64]int{}
		seeBoth(t, w, p, int64(r.Intn(200)))
		times[p.top]++
		for range 1500 {
			n := nextNumber(r, p.top)
			near := n >= 0 && n <= greatest && n > p.top-64
			e := w.See(n)
			if near && (e == api.OK) != (times[n] == 0) {
				t.Fatalf("top %d: See(%d) is %d, and it came %d times", p.top, n, e, times[n])
			}
			if e == api.OK {
				times[n]++
			}
			if want := p.see(n); e != want {
				t.Fatalf("top %d: See(%d) is %d, want %d", p.top, n, e, want)
			}
			if times[n] > 1 {
				t.Fatalf("%d came %d times", n, times[n])
			}
			wantTop(t, w, p.top, true)
		}
		holdAgainst(t, "row", w, p)
	}
}

// TestAnyOrder is promise 7.2 of one set of near numbers: in whichever order they come, each comes, and Top is the same.
func TestAnyOrder(t *testing.T) {
	r := rand.New(rand.NewSource(4))
	for _, base := range []int64{0, 1, 1000, 1 << 33, greatest - 63} {
		for range 50 {
			w := replay.New()
			for _, d := range r.Perm(64) {
				if e := w.See(base + int64(d)); e != api.OK {
					t.Fatalf("base %d: See(%d) is %d, want OK", base, base+int64(d), e)
				}
			}
			wantTop(t, w, base+63, true)
			for d := range int64(64) {
				wantSee(t, w, base+d, api.ErrOld)
			}
		}
	}
}

// fuzzNumber is a number that four bytes tell: how it is reckoned, and two small ones.
func fuzzNumber(b []byte, top int64) int64 {
	small := int64(b[1]) | int64(b[2])<<8
	switch b[0] % 6 {
	case 0:
		return top + small%70
	case 1:
		return top - small%70
	case 2:
		return int64(uint64(small+1) << (b[3] % 64))
	case 3:
		return greatest + 3 - small%80
	case 4:
		return top + int64(1)<<(b[3]%62) + small%3 - 1
	}
	return small - 3
}

// FuzzRow holds promises 7.1 and 7.2 at any row of numbers.
func FuzzRow(f *testing.F) {
	f.Add([]byte{5, 8, 0, 0, 5, 6, 0, 0, 5, 8, 0, 0, 5, 103, 0, 0, 5, 39, 0, 0, 5, 40, 0, 0})
	f.Add([]byte{3, 3, 0, 0, 3, 4, 0, 0, 3, 66, 0, 0, 3, 67, 0, 0, 3, 2, 0, 0})
	f.Add([]byte{5, 3, 0, 0, 4, 1, 0, 6, 1, 63, 0, 0, 1, 64, 0, 0, 4, 1, 0, 40, 2, 0, 0, 63})
	f.Fuzz(func(t *testing.T, b []byte) {
		w, p := replay.New(), newPast()
		for ; len(b) >= 4; b = b[4:] {
			n := fuzzNumber(b, p.top)
			if e, want := w.Check(n), p.check(n); e != want {
				t.Fatalf("top %d: Check(%d) is %d, want %d", p.top, n, e, want)
			}
			seeBoth(t, w, p, n)
			wantTop(t, w, p.top, len(p.came) > 0)
		}
		holdAgainst(t, "row", w, p)
	})
}
