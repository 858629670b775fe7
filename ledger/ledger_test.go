package ledger_test

import (
	"math"
	"math/big"
	"math/rand"
	"slices"
	"testing"

	"vizard/api"
	"vizard/ledger"
)

const greatest = int64(1<<62 - 1)

// What became of a packet.
const (
	going = iota
	came
	gone
)

// sent is a packet of the plain ledger.
type sent struct {
	number, tick int64
	size, fate   int
}

// plain is a ledger that forgets no packet, and that is read off the chapter.
type plain struct {
	packets           []sent
	window, threshold int
	mark              int64
	backoff           int
}

func newPlain() *plain {
	return &plain{window: 12000, threshold: 1 << 30, mark: -1}
}

// above tells whether a number is above all that were sent.
func (p *plain) above(n int64) bool {
	return !slices.ContainsFunc(p.packets, func(q sent) bool { return q.number >= n })
}

func (p *plain) sent(n, now int64, size int) api.Errno {
	if n < 0 || n > greatest || !p.above(n) || size < 1 || size > 1200 {
		return api.ErrRange
	}
	p.packets = append(p.packets, sent{number: n, tick: now, size: size})
	return api.OK
}

// rightRanges tells whether ranges are right, as chapter 8 says it.
func rightRanges(l []api.Range) bool {
	for i, r := range l {
		if r.Low < 0 || r.High > greatest || r.Low > r.High {
			return false
		}
		if i > 0 && r.High >= l[i-1].Low-1 {
			return false
		}
	}
	return len(l) <= 16
}

func (p *plain) acked(r []api.Range) (told, lost []int64, e api.Errno) {
	if !rightRanges(r) {
		return nil, nil, api.ErrRange
	}
	high := int64(-1)
	for _, one := range r {
		high = max(high, one.High)
	}
	if len(r) > 0 && p.above(high) {
		return nil, nil, api.ErrRange
	}
	for i := range p.packets {
		q := &p.packets[i]
		in := slices.ContainsFunc(r, func(one api.Range) bool { return q.number >= one.Low && q.number <= one.High })
		if !in || q.fate != going {
			continue
		}
		q.fate = came
		told = append(told, q.number)
		if p.window < p.threshold {
			p.window += q.size
		} else {
			p.window += 1200 * q.size / p.window
		}
		p.window = min(p.window, 1<<30)
		p.backoff = 0
	}
	return told, p.lose(func(q sent) bool { return high-q.number >= 3 }), api.OK
}

// lose gives up what is on its way and hangs too far behind.
func (p *plain) lose(late func(q sent) bool) (lost []int64) {
	above, top := false, int64(-1)
	for i := range p.packets {
		q := &p.packets[i]
		top = max(top, q.number)
		if q.fate == going && late(*q) {
			q.fate = gone
			lost = append(lost, q.number)
			above = above || q.number > p.mark
		}
	}
	if above {
		p.threshold = max(p.window/2, 2400)
		p.window = p.threshold
		p.mark = top
	}
	return lost
}

func (p *plain) wait() int64 {
	return []int64{8, 16, 32, 64, 128, 256, 512}[p.backoff]
}

func (p *plain) expire(now int64) []int64 {
	late := slices.ContainsFunc(p.packets, func(q sent) bool {
		ago := new(big.Int).Sub(big.NewInt(now), big.NewInt(q.tick))
		return q.fate == going && ago.Cmp(big.NewInt(p.wait())) >= 0
	})
	if !late {
		return nil
	}
	lost := p.lose(func(sent) bool { return true })
	p.backoff = min(p.backoff+1, 6)
	return lost
}

func (p *plain) flight() (count, bytes int) {
	for _, q := range p.packets {
		if q.fate == going {
			count, bytes = count+1, bytes+q.size
		}
	}
	return count, bytes
}

// both is a ledger beside its plain one; every step is held against it, and what became of each packet is counted.
type both struct {
	t    *testing.T
	l    *ledger.Ledger
	p    *plain
	told map[int64]int
	lost map[int64]int
}

func newBoth(t *testing.T) *both {
	t.Helper()
	b := &both{t: t, l: ledger.New(), p: newPlain(), told: map[int64]int{}, lost: map[int64]int{}}
	if b.l == nil {
		t.Fatal("New is nil")
	}
	b.same("new")
	return b
}

// same asks the ledger for all that it tells without a change.
func (b *both) same(name string) {
	b.t.Helper()
	count, bytes := b.l.Flight()
	wantCount, wantBytes := b.p.flight()
	if count != wantCount || bytes != wantBytes {
		b.t.Fatalf("%s: Flight is %d, %d, want %d, %d", name, count, bytes, wantCount, wantBytes)
	}
	if w := b.l.Window(); w != b.p.window {
		b.t.Fatalf("%s: Window is %d, want %d", name, w, b.p.window)
	}
	if w := b.l.Window(); w < 2400 || w > 1<<30 {
		b.t.Fatalf("%s: Window is %d", name, w)
	}
	if w := b.l.Wait(); w != b.p.wait() {
		b.t.Fatalf("%s: Wait is %d, want %d", name, w, b.p.wait())
	}
}

func (b *both) sent(n, now int64, size int) api.Errno {
	b.t.Helper()
	e := b.l.Sent(n, now, size)
	if want := b.p.sent(n, now, size); e != want {
		b.t.Fatalf("Sent(%d, %d, %d) is %d, want %d", n, now, size, e, want)
	}
	b.same("Sent")
	return e
}

func (b *both) acked(r ...api.Range) (told, lost []int64, e api.Errno) {
	b.t.Helper()
	// What stands behind the list's end must stay as it is, too.
	room := append(slices.Clone(r), api.Range{Low: -7, High: -7})
	told, lost, e = b.l.Acked(room[:len(r)])
	if !slices.Equal(room[:len(r)], r) || room[len(r)] != (api.Range{Low: -7, High: -7}) {
		b.t.Fatalf("Acked(%v) has made %v of it", r, room)
	}
	wantTold, wantLost, want := b.p.acked(r)
	if e != want || !slices.Equal(told, wantTold) || !slices.Equal(lost, wantLost) {
		b.t.Fatalf("Acked(%v) is %v, %v, %d, want %v, %v, %d", r, told, lost, e, wantTold, wantLost, want)
	}
	b.count(told, lost)
	b.same("Acked")
	return told, lost, e
}

func (b *both) expire(now int64) []int64 {
	b.t.Helper()
	lost := b.l.Expire(now)
	if want := b.p.expire(now); !slices.Equal(lost, want) {
		b.t.Fatalf("Expire(%d) is %v, want %v", now, lost, want)
	}
	b.count(nil, lost)
	b.same("Expire")
	return lost
}

// count is promise 10.5: no number is answered a second time.
func (b *both) count(told, lost []int64) {
	b.t.Helper()
	for _, n := range told {
		b.told[n]++
	}
	for _, n := range lost {
		b.lost[n]++
	}
	for _, n := range append(slices.Clone(told), lost...) {
		if b.told[n]+b.lost[n] != 1 {
			b.t.Fatalf("%d is told %d times, and given up %d times", n, b.told[n], b.lost[n])
		}
	}
}

// row sends numbers that follow one another, all at one tick and of one size.
func (b *both) row(first, last, now int64, size int) {
	b.t.Helper()
	for n := first; n <= last; n++ {
		if e := b.sent(n, now, size); e != api.OK {
			b.t.Fatalf("Sent(%d, %d, %d) is %d", n, now, size, e)
		}
	}
}

// wantAcked says, beside what the plain ledger says, what must come of it.
func (b *both) wantAcked(r []api.Range, told, lost []int64, window int) {
	b.t.Helper()
	a, c, e := b.acked(r...)
	if !slices.Equal(a, told) || !slices.Equal(c, lost) || e != api.OK || b.l.Window() != window {
		b.t.Fatalf("Acked(%v) is %v, %v, %d with the window %d, want %v, %v with %d", r, a, c, e, b.l.Window(), told, lost, window)
	}
}

func (b *both) wantRefused(r ...api.Range) {
	b.t.Helper()
	if _, _, e := b.acked(r...); e != api.ErrRange {
		b.t.Fatalf("Acked(%v) is %d, want ErrRange", r, e)
	}
}

func (b *both) wantExpire(now int64, lost []int64, window int, wait int64) {
	b.t.Helper()
	l := b.expire(now)
	if !slices.Equal(l, lost) || b.l.Window() != window || b.l.Wait() != wait {
		b.t.Fatalf("Expire(%d) is %v with the window %d and the wait %d, want %v, %d, %d", now, l, b.l.Window(), b.l.Wait(), lost, window, wait)
	}
}

func (b *both) wantFlight(count, bytes int) {
	b.t.Helper()
	if c, n := b.l.Flight(); c != count || n != bytes {
		b.t.Fatalf("Flight is %d, %d, want %d, %d", c, n, count, bytes)
	}
}

func one(n int64) []api.Range          { return []api.Range{{Low: n, High: n}} }
func from(low, high int64) []api.Range { return []api.Range{{Low: low, High: high}} }

// TestExample is promises 10.1 to 10.4 at the chapter's example.
func TestExample(t *testing.T) {
	b := newBoth(t)
	b.row(0, 4, 0, 1000)
	b.wantFlight(5, 5000)
	b.wantAcked(one(4), []int64{4}, []int64{0, 1}, 6500)
	b.wantFlight(2, 2000)
	b.wantExpire(8, []int64{2, 3}, 6500, 16)
	b.wantFlight(0, 0)
}

// TestNew is promises 10.1 and 10.4 of a ledger to which nothing was sent.
func TestNew(t *testing.T) {
	b := newBoth(t)
	b.wantFlight(0, 0)
	if b.l.Window() != 12000 || b.l.Wait() != 8 {
		t.Fatalf("the window is %d, the wait %d", b.l.Window(), b.l.Wait())
	}
	for _, now := range []int64{math.MinInt64, -1, 0, 8, math.MaxInt64} {
		b.wantExpire(now, nil, 12000, 8)
	}
	b.wantAcked(nil, nil, nil, 12000)
	b.wantAcked([]api.Range{}, nil, nil, 12000)
	b.wantRefused(one(0)...)
	b.wantRefused(from(0, greatest)...)
	b.wantRefused(one(greatest)...)
}

// TestSentNumbers is promise 10.1 of a number at the ends of what is right, and beside those that were sent.
func TestSentNumbers(t *testing.T) {
	for _, n := range []int64{0, 1, 7, 1 << 32, greatest - 1, greatest} {
		b := newBoth(t)
		if e := b.sent(n, 5, 100); e != api.OK {
			t.Errorf("Sent(%d) is %d", n, e)
		}
		b.wantFlight(1, 100)
		b.wantAcked(one(n), []int64{n}, nil, 12100)
	}
	for _, n := range []int64{math.MinInt64, math.MinInt64 + 1, -greatest, -2, -1, greatest + 1, greatest + 2, math.MaxInt64} {
		b := newBoth(t)
		if e := b.sent(n, 5, 100); e != api.ErrRange {
			t.Errorf("Sent(%d) is %d", n, e)
		}
		b.wantFlight(0, 0)
		b.wantRefused(one(0)...)
		b.row(3, 3, 5, 100)
		b.acked(one(3)...)
		b.row(20, 20, 5, 100)
		if e := b.sent(n, 5, 100); e != api.ErrRange {
			t.Errorf("Sent(%d) behind others is %d", n, e)
		}
		b.wantFlight(1, 100)
	}
	b := newBoth(t)
	b.row(10, 10, 0, 100)
	for _, n := range []int64{10, 9, 1, 0} {
		if e := b.sent(n, 0, 100); e != api.ErrRange {
			t.Errorf("Sent(%d) behind 10 is %d", n, e)
		}
	}
	b.row(11, 11, 0, 100)
	b.row(40, 40, 0, 100)
	b.wantFlight(3, 300)
	if e := b.sent(20, 0, 100); e != api.ErrRange {
		t.Errorf("a number that was passed over is %d", e)
	}
	b.row(greatest, greatest, 0, 100)
	for _, n := range []int64{greatest, greatest + 1, greatest - 1, 0, math.MaxInt64} {
		if e := b.sent(n, 0, 100); e != api.ErrRange {
			t.Errorf("Sent(%d) behind the greatest is %d", n, e)
		}
	}
	b.wantFlight(4, 400)
}

// TestSentStays is promise 10.1: a number was sent, be it told or given up since.
func TestSentStays(t *testing.T) {
	b := newBoth(t)
	b.row(5, 9, 0, 100)
	b.wantAcked(from(5, 9), []int64{5, 6, 7, 8, 9}, nil, 12500)
	for n := int64(0); n <= 9; n++ {
		if e := b.sent(n, 0, 100); e != api.ErrRange {
			t.Errorf("Sent(%d), which came, is %d", n, e)
		}
	}
	b.row(10, 12, 0, 100)
	b.wantExpire(8, []int64{10, 11, 12}, 6250, 16)
	for n := int64(0); n <= 12; n++ {
		if e := b.sent(n, 0, 100); e != api.ErrRange {
			t.Errorf("Sent(%d), which was given up, is %d", n, e)
		}
	}
	b.row(13, 13, 0, 100)
}

// TestSentSizes is promise 10.1 of sizes, and that a Sent which is refused changes nothing.
func TestSentSizes(t *testing.T) {
	for _, size := range []int{1, 2, 45, 1199, 1200} {
		b := newBoth(t)
		if e := b.sent(0, 0, size); e != api.OK {
			t.Errorf("a size of %d is %d", size, e)
		}
		b.wantFlight(1, size)
		b.wantAcked(one(0), []int64{0}, nil, 12000+size)
	}
	for _, size := range []int{math.MinInt, math.MinInt32, -1200, -1, 0, 1201, 1 << 16, 1 << 32, 1<<32 + 1, math.MaxInt} {
		b := newBoth(t)
		if e := b.sent(0, 0, size); e != api.ErrRange {
			t.Errorf("a size of %d is %d", size, e)
		}
		b.wantFlight(0, 0)
		b.wantRefused(one(0)...)
		b.row(0, 0, 0, 7)
		if e := b.sent(9, -100, size); e != api.ErrRange {
			t.Errorf("a size of %d is %d", size, e)
		}
		b.wantFlight(1, 7)
		b.wantRefused(one(9)...)
		b.wantExpire(7, nil, 12000, 8)
		b.row(1, 1, 0, 8)
		b.wantAcked(from(0, 1), []int64{0, 1}, nil, 12015)
	}
}

// TestAckedWrong is promise 10.2 with R2: ranges that are not right, or too great, are ErrRange, and change nothing.
func TestAckedWrong(t *testing.T) {
	fresh := func() *both {
		b := newBoth(t)
		b.row(0, 0, 0, 500)
		b.wantExpire(8, []int64{0}, 6000, 16)
		b.row(1, 40, 10, 500)
		return b
	}
	far := []int64{math.MinInt64, -greatest, -2, -1, 41, 42, 1 << 32, greatest, greatest + 1, math.MaxInt64}
	rows := [][]api.Range{
		{{Low: 40, High: 39}}, {{Low: 1, High: 0}}, {{Low: -1, High: 3}}, {{Low: -1, High: -1}}, {{Low: math.MinInt64, High: math.MaxInt64}},
		{{Low: 30, High: 41}}, {{Low: 41, High: 41}}, {{Low: 0, High: greatest}}, {{Low: 0, High: greatest + 1}},
		{{Low: 41, High: 41}, {Low: 3, High: 5}}, {{Low: 1 << 40, High: 1 << 41}, {Low: 3, High: 5}},
		{{Low: 30, High: 35}, {Low: 20, High: 29}}, {{Low: 30, High: 35}, {Low: 20, High: 31}}, {{Low: 20, High: 25}, {Low: 30, High: 35}},
		{{Low: 5, High: 5}, {Low: 5, High: 5}}, {{Low: 10, High: 20}, {Low: 9, High: 8}}, {{Low: 10, High: 20}, {Low: -4, High: 8}},
		{{Low: 10, High: 20}, {Low: -4, High: -1}}, {{Low: 0, High: 20}, {Low: -2, High: -2}}, {{Low: 0, High: 3}, {Low: 50, High: 60}},
	}
	for _, n := range far {
		rows = append(rows, one(n), from(3, n), from(n, 40), []api.Range{{Low: 35, High: 40}, {Low: n, High: n}})
	}
	for _, r := range rows {
		b := fresh()
		b.wantRefused(r...)
		b.wantFlight(40, 20000)
		if b.l.Window() != 6000 || b.l.Wait() != 16 {
			t.Errorf("Acked(%v) has changed the window to %d or the wait to %d", r, b.l.Window(), b.l.Wait())
		}
		b.wantAcked(from(1, 2), []int64{1, 2}, nil, 6000+100+1200*500/6100)
		b.wantAcked(one(40), []int64{40}, fill(3, 37), b.l.Window()/2+48)
	}
}

// fill is numbers that follow one another.
func fill(low, high int64) (l []int64) {
	for n := low; n <= high; n++ {
		l = append(l, n)
	}
	return l
}

// TestAckedTop is promise 10.2 of the greatest number that was sent, and of one above it; what became of that number makes no difference.
func TestAckedTop(t *testing.T) {
	for _, top := range []int64{0, 1, 63, 1 << 40, greatest - 1} {
		b := newBoth(t)
		b.row(top, top, 0, 10)
		b.wantRefused(one(top + 1)...)
		b.wantRefused(from(top, top+1)...)
		b.wantRefused(one(greatest)...)
		b.wantAcked(one(top), []int64{top}, nil, 12010)
		b.wantAcked(one(top), nil, nil, 12010)
		b.wantAcked(from(0, top), nil, nil, 12010)
		b.wantRefused(one(top + 1)...)
		b.row(top+1, top+1, 0, 10)
		b.wantExpire(8, []int64{top + 1}, 6005, 16)
		b.wantAcked(one(top+1), nil, nil, 6005)
		if top+2 <= greatest {
			b.wantRefused(one(top + 2)...)
		}
	}
	b := newBoth(t)
	b.row(greatest-4, greatest, 0, 10)
	b.wantRefused(one(greatest + 1)...)
	b.wantAcked(one(greatest), []int64{greatest}, []int64{greatest - 4, greatest - 3}, 6005)
	b.wantAcked(from(0, greatest), []int64{greatest - 2, greatest - 1}, nil, 6005+1+1)
}

// TestAckedNothing is promise 10.2 of no ranges: nothing is told, and nothing lost.
func TestAckedNothing(t *testing.T) {
	b := newBoth(t)
	for i := range int64(3) {
		b.wantAcked(nil, nil, nil, 12000)
		b.row(10*i, 10*i+9, 0, 10)
		b.wantAcked([]api.Range{}, nil, nil, 12000)
	}
	b.wantFlight(30, 300)
	b.wantExpire(100, fill(0, 29), 6000, 16)
	b.wantAcked(nil, nil, nil, 6000)
	if b.l.Wait() != 16 {
		t.Errorf("the wait is %d", b.l.Wait())
	}
}

// TestAckedAgain is promises 10.2 and 10.5 of numbers that were never sent, that were told before, and that were given up before.
func TestAckedAgain(t *testing.T) {
	b := newBoth(t)
	for _, n := range []int64{2, 4, 6, 100, 101} {
		b.row(n, n, 0, 100)
	}
	b.wantAcked(from(0, 1), nil, nil, 12000)
	b.wantAcked(one(3), nil, nil, 12000)
	b.wantAcked([]api.Range{{Low: 5, High: 5}, {Low: 3, High: 3}, {Low: 0, High: 1}}, nil, []int64{2}, 6000)
	b.wantAcked(from(2, 2), nil, nil, 6000)
	b.wantAcked(from(0, 4), []int64{4}, nil, 6020)
	b.wantAcked(from(0, 4), nil, nil, 6020)
	b.wantExpire(8, []int64{6, 100, 101}, 6020, 16)
	b.wantAcked(from(0, 101), nil, nil, 6020)
	if b.l.Wait() != 16 {
		t.Errorf("the wait is %d, though nothing was told", b.l.Wait())
	}
	b.wantExpire(1000, nil, 6020, 16)
}

// TestAckedOld is promise 10.2: packets are lost behind the greatest of the ranges, though that one was told long ago, and not behind the greatest that was ever told.
func TestAckedOld(t *testing.T) {
	b := newBoth(t)
	b.row(0, 20, 0, 100)
	b.wantAcked([]api.Range{{Low: 5, High: 5}, {Low: 0, High: 2}}, []int64{0, 1, 2, 5}, nil, 12400)
	b.wantAcked(one(4), []int64{4}, nil, 12500)
	b.wantFlight(16, 1600)
	b.wantAcked(one(5), nil, nil, 12500)
	b.wantAcked(one(6), []int64{6}, []int64{3}, 6300)
	b.wantAcked(one(20), []int64{20}, fill(7, 17), 6319)
	b.wantAcked(from(0, 6), nil, nil, 6319)
	b.wantFlight(2, 200)
	b.wantAcked(from(18, 18), []int64{18}, nil, 6319+18)
}

// TestReorder is promise 10.2 of numbers 1 to 5 below the greatest of the ranges: 3 or more below it is lost.
func TestReorder(t *testing.T) {
	for below := int64(1); below <= 5; below++ {
		for _, base := range []int64{0, 1, 1 << 40, greatest - 5} {
			b := newBoth(t)
			b.row(base, base, 0, 100)
			b.row(base+below, base+below, 0, 100)
			if below < 3 {
				b.wantAcked(one(base+below), []int64{base + below}, nil, 12100)
				b.wantFlight(1, 100)
			} else {
				b.wantAcked(one(base+below), []int64{base + below}, []int64{base}, 6050)
				b.wantFlight(0, 0)
			}
		}
	}
	b := newBoth(t)
	b.row(0, 9, 0, 100)
	b.wantAcked([]api.Range{{Low: 7, High: 7}, {Low: 2, High: 3}}, []int64{2, 3, 7}, []int64{0, 1, 4}, 6150)
	b.wantFlight(4, 400)
	b.wantAcked(from(5, 9), []int64{5, 6, 8, 9}, nil, 6150+4*19)
}

// TestSixteen is promise 10.2 of sixteen ranges, and of one more.
func TestSixteen(t *testing.T) {
	b := newBoth(t)
	b.row(0, 100, 0, 10)
	var r []api.Range
	var told []int64
	for n := int64(100); n > 50; n -= 3 {
		r = append(r, api.Range{Low: n - 1, High: n})
		told = append(told, n-1, n)
	}
	if len(r) != 17 {
		t.Fatalf("%d ranges", len(r))
	}
	b.wantRefused(r...)
	b.wantFlight(101, 1010)
	told = told[:32]
	slices.Sort(told)
	var lost []int64
	for n := int64(0); n <= 97; n++ {
		if !slices.Contains(told, n) {
			lost = append(lost, n)
		}
	}
	b.wantAcked(r[:16], told, lost, 6160)
	b.wantFlight(1, 10)
	b.wantRefused(r...)
	b.wantAcked(one(98), []int64{98}, nil, 6161)
}

// TestGrowth is promise 10.2 of a window below, at and above the threshold, packet by packet in their order.
func TestGrowth(t *testing.T) {
	b := newBoth(t)
	window := 12000
	for i, size := range []int{1, 1200, 45, 777} {
		b.row(int64(i), int64(i), 0, size)
		window += size
		b.wantAcked(one(int64(i)), []int64{int64(i)}, nil, window)
	}
	b.row(4, 4, 0, 1)
	b.wantExpire(8, []int64{4}, window/2, 16)
	window /= 2 // 7011: at the threshold
	for i, size := range []int{1200, 1200, 6, 5, 1, 45, 1199} {
		n := int64(5 + i)
		b.row(n, n, 0, size)
		window += 1200 * size / window
		b.wantAcked(one(n), []int64{n}, nil, window)
	}
	if window != 7011+205+199+0+0+0+7+193 {
		t.Errorf("the window is %d", window)
	}
}

// TestGrowthOrder is promise 10.2: each packet finds the window that those ahead of it have made, the least number first.
func TestGrowthOrder(t *testing.T) {
	b := newBoth(t)
	b.row(0, 3, 0, 1)
	for i := range 3 {
		b.expire(int64(8 << i))
		b.row(int64(10+i), int64(10+i), 0, 1)
	}
	b.expire(1000)
	if b.l.Window() != 2400 {
		t.Fatalf("the window is %d", b.l.Window())
	}
	b.row(20, 20, 0, 1200)
	b.row(21, 21, 0, 2)
	b.row(22, 22, 0, 1200)
	// 2400 + 600, + 0, + 480: not 2400 + 1, + 599, + 480.
	b.wantAcked(from(20, 22), []int64{20, 21, 22}, nil, 3480)
}

// TestGrowthAhead is promise 10.2: the window grows ahead of the loss that the same ranges tell.
func TestGrowthAhead(t *testing.T) {
	b := newBoth(t)
	b.row(0, 3, 0, 1200)
	b.wantAcked(one(3), []int64{3}, []int64{0}, 6600)
	b.row(4, 7, 0, 1200)
	b.wantAcked(one(7), []int64{7}, []int64{1, 2, 4}, (6600+1200*1200/6600)/2)
}

// TestMark is the chapter's losing, with a loss above the mark, at it and below it.
func TestMark(t *testing.T) {
	b := newBoth(t)
	b.row(0, 6, 0, 100)
	b.wantAcked(one(3), []int64{3}, []int64{0}, 6050) // the mark is 6
	b.wantAcked(one(4), []int64{4}, []int64{1}, 6050+19)
	b.row(7, 7, 0, 100)
	b.wantAcked(one(5), []int64{5}, []int64{2}, 6069+19)
	b.row(9, 9, 0, 100)
	b.wantAcked(one(9), []int64{9}, []int64{6}, 6088+19) // at the mark
	b.row(10, 10, 0, 100)
	b.wantAcked(one(10), []int64{10}, []int64{7}, (6107+19)/2) // just above it; the mark is 10
	b.row(11, 11, 0, 100)
	b.row(20, 20, 0, 100)
	b.wantAcked(one(20), []int64{20}, []int64{11}, (3063+39)/2+849) // the mark is 20
	b.row(21, 22, 0, 100)
	b.wantExpire(8, []int64{21, 22}, 2400, 16)
}

// TestMarkAllAtOnce is the chapter's losing: of some packets at once, of which one alone is above the mark, and that counts once.
func TestMarkAllAtOnce(t *testing.T) {
	b := newBoth(t)
	b.row(0, 9, 0, 1200)
	b.wantAcked(one(3), []int64{3}, []int64{0}, 6600) // the mark is 9
	b.row(10, 12, 0, 1200)
	b.wantExpire(8, []int64{1, 2, 4, 5, 6, 7, 8, 9, 10, 11, 12}, 3300, 16) // the mark is 12
	b.row(13, 19, 0, 1200)
	b.wantAcked(one(19), []int64{19}, []int64{13, 14, 15, 16}, 2400)
	b.wantExpire(8, []int64{17, 18}, 2400, 16)
}

// TestMarkIsSent is the chapter's losing: the mark is the greatest number that was sent, and not the greatest that was lost or is on its way.
func TestMarkIsSent(t *testing.T) {
	b := newBoth(t)
	b.row(0, 10, 0, 100)
	b.wantAcked(from(6, 10), []int64{6, 7, 8, 9, 10}, fill(0, 5), 6250) // lost 5, nothing on its way, the mark 10
	b = newBoth(t)
	b.row(0, 10, 0, 100)
	b.wantAcked(one(3), []int64{3}, []int64{0}, 6050) // the mark 10
	b.wantExpire(8, []int64{1, 2, 4, 5, 6, 7, 8, 9, 10}, 6050, 16)
	b.row(11, 11, 0, 100)
	b.wantExpire(16, []int64{11}, 3025, 32)
}

// TestLeastWindow is promises 10.4 and 10.5: half the window, cut, but at least 2400.
func TestLeastWindow(t *testing.T) {
	for first := 12000; first <= 19240; first += 1 + first%7 {
		b := newBoth(t)
		number, now := int64(0), int64(0)
		for left := first - 12000; left > 0; left -= min(left, 1200) {
			b.row(number, number, now, min(left, 1200))
			b.acked(one(number)...)
			number++
		}
		window, wait := first, int64(8)
		for range 5 {
			b.row(number, number, now, 1200)
			window, wait, now = max(window/2, 2400), wait*2, now+wait
			b.wantExpire(now, []int64{number}, window, wait)
			number++
		}
		if window != 2400 {
			t.Fatalf("the window ends at %d", window)
		}
		b.row(number, number, now, 1200)
		b.wantAcked(one(number), []int64{number}, nil, 3000)
		b.row(number+1, number+1, now, 1200)
		b.wantExpire(now+8, []int64{number + 1}, 2400, 16)
	}
}

// grown is a ledger whose window has grown to 2^30 - 1024.
func grown(t *testing.T) (l *ledger.Ledger, next int64) {
	t.Helper()
	const count = (1<<30 - 12000) / 1200
	l = ledger.New()
	for n := range int64(count) {
		if e := l.Sent(n, 0, 1200); e != api.OK {
			t.Fatalf("Sent(%d) is %d", n, e)
		}
	}
	if c, bytes := l.Flight(); c != count || bytes != count*1200 {
		t.Fatalf("Flight is %d, %d", c, bytes)
	}
	told, lost, e := l.Acked(from(0, count-1))
	if len(told) != count || len(lost) != 0 || e != api.OK || l.Window() != 1<<30-1024 {
		t.Fatalf("%d are told, %d lost, error %d, the window is %d", len(told), len(lost), e, l.Window())
	}
	return l, count
}

// TestMostWindow is promise 10.4 of a window just below 2^30 and at it, and of growth that would take it above.
func TestMostWindow(t *testing.T) {
	for _, sizes := range [][]int{{1023, 1}, {1024}, {1025}, {1200}, {1023, 2}, {1023, 1200}, {1022, 1, 1}, {500, 525}} {
		l, next := grown(t)
		window := 1<<30 - 1024
		step := func(size, want int) {
			t.Helper()
			l.Sent(next, 0, size)
			l.Acked(one(next))
			next++
			if l.Window() != want {
				t.Fatalf("behind %d the window is %d, want %d", size, l.Window(), want)
			}
		}
		for _, size := range sizes {
			window = min(window+size, 1<<30)
			step(size, window)
		}
		for _, size := range []int{1, 1200, 1200, 1023} {
			step(size, 1<<30)
		}
		l.Sent(next, 0, 1)
		if lost := l.Expire(8); len(lost) != 1 || l.Window() != 1<<29 {
			t.Fatalf("behind the greatest window it is %d", l.Window())
		}
		next++
		step(1200, 1<<29) // 1200 times 1200 is less than the window
	}
}

// TestExpire is promise 10.3 one tick ahead of the wait, at it and behind it, for every backoff.
func TestExpire(t *testing.T) {
	for _, at := range []int64{-1 << 62, -513, -8, -1, 0, 1, 1 << 40, math.MaxInt64 - 4096} {
		b := newBoth(t)
		now, number := at, int64(0)
		for i, wait := range []int64{8, 16, 32, 64, 128, 256, 512, 512, 512} {
			b.row(number, number+2, now, 10)
			if b.l.Wait() != wait {
				t.Fatalf("the wait %d is %d, want %d", i, b.l.Wait(), wait)
			}
			for _, early := range []int64{math.MinInt64, now - 600, now - wait, now - 1, now, now + 1, now + wait/2, now + wait - 1} {
				if early > now+wait { // wrapped round
					continue
				}
				if l := b.expire(early); len(l) != 0 {
					t.Fatalf("Expire(%d) is %v, sent at %d with the wait %d", early, l, now, wait)
				}
			}
			late := now + wait + int64(i)%3
			if l := b.expire(late); !slices.Equal(l, fill(number, number+2)) {
				t.Fatalf("Expire(%d) is %v, sent at %d with the wait %d", late, l, now, wait)
			}
			b.wantFlight(0, 0)
			b.wantExpire(late+wait, nil, b.l.Window(), b.l.Wait())
			now, number = now+wait, number+3
		}
	}
}

// TestExpireTicks is promise 10.3 of the least and the greatest tick, that lie further apart than a number reaches.
func TestExpireTicks(t *testing.T) {
	ticks := []int64{
		math.MinInt64, math.MinInt64 + 1, math.MinInt64 + 7, math.MinInt64 + 8, math.MinInt64 + 9, -1 << 62, -9, -8, -7, -1, 0, 1, 7, 8, 9,
		1 << 62, math.MaxInt64 - 9, math.MaxInt64 - 8, math.MaxInt64 - 7, math.MaxInt64 - 1, math.MaxInt64,
	}
	for _, sentAt := range ticks {
		for _, now := range ticks {
			b := newBoth(t)
			b.row(0, 0, sentAt, 10)
			ago := new(big.Int).Sub(big.NewInt(now), big.NewInt(sentAt))
			if ago.Cmp(big.NewInt(8)) >= 0 {
				b.wantExpire(now, []int64{0}, 6000, 16)
			} else {
				b.wantExpire(now, nil, 12000, 8)
			}
		}
	}
}

// TestExpireAll is promise 10.3: one packet that waits too long takes all with it, also those that were sent just now or behind now; ticks of packets needn't rise.
func TestExpireAll(t *testing.T) {
	for late := range 4 {
		b := newBoth(t)
		for i := range 4 {
			tick := int64(100 + i)
			if i == late {
				tick = 50
			}
			b.row(int64(i), int64(i), tick, 10)
		}
		b.wantExpire(57, nil, 12000, 8)
		b.wantExpire(58, []int64{0, 1, 2, 3}, 6000, 16)
		b.wantExpire(10000, nil, 6000, 16)
	}
	b := newBoth(t)
	b.row(0, 0, 0, 10)
	b.row(1, 1, 100, 10)
	b.wantAcked(one(0), []int64{0}, nil, 12010)
	b.wantExpire(107, nil, 12010, 8) // the one that waits too long has come
	b.wantExpire(108, []int64{1}, 6005, 16)
}

// TestBackoff is promises 10.2 and 10.3: what brings the backoff back to 0, and what doesn't.
func TestBackoff(t *testing.T) {
	for _, up := range []int{0, 1, 5, 6, 7, 20} {
		b := newBoth(t)
		number := int64(0)
		for range up {
			b.row(number, number, 0, 10)
			b.expire(1000)
			number++
		}
		wait := int64(8) << min(up, 6)
		if b.l.Wait() != wait {
			t.Fatalf("behind %d the wait is %d, want %d", up, b.l.Wait(), wait)
		}
		same := func(name string) {
			t.Helper()
			if b.l.Wait() != wait {
				t.Fatalf("%s: the wait is %d, want %d", name, b.l.Wait(), wait)
			}
		}
		b.row(number, number+9, 0, 10)
		same("sent")
		b.expire(wait - 1)
		same("nothing is late")
		b.wantRefused(one(number + 10)...)
		same("refused")
		b.acked()
		same("no ranges")
		if number > 0 {
			b.acked(one(number - 1)...)
			same("given up before")
		}
		b.acked(one(number + 5)...)
		if wait = 8; b.l.Wait() != 8 {
			t.Fatalf("told: the wait is %d", b.l.Wait())
		}
		b.row(number+10, number+10, 0, 10)
		b.expire(1000)
		wait = 16
		same("late once more")
		b.row(number+11, number+11, 0, 10)
		b.row(number+20, number+20, 0, 10)
		b.acked(one(number + 10)...)
		same("nothing new")
		b.row(number+21, number+21, 0, 10)
		b.expire(1000)
		b.row(number+30, number+40, 0, 10)
		wait = 32
		if _, lost, _ := b.acked(one(number + 29)...); len(lost) != 0 {
			t.Fatalf("lost are %v", lost)
		}
		same("between")
	}
	b := newBoth(t)
	b.row(0, 0, 0, 10)
	b.wantExpire(8, []int64{0}, 6000, 16)
	b.row(1, 1, 0, 10)
	b.row(5, 5, 0, 10)
	b.wantAcked(one(4), nil, []int64{1}, 3000) // lost, with nothing told
	if b.l.Wait() != 16 {
		t.Errorf("a loss with nothing told makes the wait %d", b.l.Wait())
	}
}

// TestNewMemory is R4: what was handed out shares nothing with the ledger, with another answer or with what was handed in.
func TestNewMemory(t *testing.T) {
	b := newBoth(t)
	b.row(0, 9, 0, 10)
	r := []api.Range{{Low: 7, High: 7}, {Low: 2, High: 3}}
	told, lost, _ := b.l.Acked(r)
	b.p.acked(r)
	r[0], r[1] = api.Range{Low: -1, High: -1}, api.Range{Low: 100, High: 200}
	told = append(told, 55, 56, 57)
	if want := []int64{0, 1, 4}; !slices.Equal(lost, want) {
		t.Fatalf("lost became %v, want %v", lost, want)
	}
	lost = append(lost, 65, 66, 67)
	if want := []int64{2, 3, 7, 55, 56, 57}; !slices.Equal(told, want) {
		t.Fatalf("told became %v, want %v", told, want)
	}
	for i := range told {
		told[i], lost[i] = -9, -9
	}
	b.same("told and lost are written over")
	b.wantFlight(4, 40)
	late := b.l.Expire(8)
	b.p.expire(8)
	b.row(10, 15, 8, 10)
	if want := []int64{5, 6, 8, 9}; !slices.Equal(late, want) {
		t.Fatalf("expired became %v, want %v", late, want)
	}
	for i := range late {
		late[i] = -9
	}
	_ = append(late, -9, -9)
	b.wantFlight(6, 60)
	b.wantAcked(one(15), []int64{15}, []int64{10, 11, 12}, (6015+1)/2)
	for i := range told {
		if told[i] != -9 || lost[i] != -9 {
			t.Fatalf("older answers became %v, %v", told, lost)
		}
	}
}

// TestBeside is promise 10.1: what was sent to one ledger was not sent to another.
func TestBeside(t *testing.T) {
	a, b := newBoth(t), newBoth(t)
	a.row(0, 9, 0, 10)
	b.same("the other one was sent to")
	b.wantRefused(one(0)...)
	a.acked(one(9)...)
	b.row(0, 3, 0, 20)
	a.same("the other one was sent to")
	b.wantExpire(8, []int64{0, 1, 2, 3}, 6000, 16)
	a.same("the other one expired")
}

// step does with both ledgers something by chance; next is the greatest number so far, now the tick.
func (b *both) step(r *rand.Rand, next *int64, now *int64) {
	b.t.Helper()
	switch kind := r.Intn(20); {
	case kind < 10:
		*next += int64(max(1, r.Intn(4)-1))
		b.sent(*next, *now-int64(r.Intn(3)), 1+r.Intn(1200))
	case kind == 10:
		b.sent(*next-int64(r.Intn(3)), *now, r.Intn(1300)-50)
	case kind < 16:
		b.acked(someRanges(r, *next)...)
	case kind == 16:
		b.acked(someRanges(r, *next+int64(r.Intn(4)))...)
	default:
		*now += int64(r.Intn(7))
		b.expire(*now)
	}
}

// someRanges is ranges at or below a number, mostly right.
func someRanges(r *rand.Rand, top int64) (l []api.Range) {
	for n := top - int64(r.Intn(5)); len(l) < r.Intn(19) && n >= 0; n -= 2 + int64(r.Intn(3)) {
		low := max(n-int64(r.Intn(3)), 0)
		l = append(l, api.Range{Low: low, High: n})
		n = low
	}
	if len(l) > 0 && r.Intn(12) == 0 {
		at := r.Intn(len(l))
		l[at].Low, l[at].High = l[at].Low+int64(r.Intn(5)-2), l[at].High+int64(r.Intn(5)-2)
	}
	return l
}

// TestRandomRows is promises 10.1 to 10.5 of rows of steps, held against the plain ledger.
func TestRandomRows(t *testing.T) {
	r := rand.New(rand.NewSource(10))
	for i := range 400 {
		b := newBoth(t)
		next := []int64{-1, 0, 1 << 32, greatest - 400}[i%4]
		now := []int64{0, -1000, math.MinInt64 + 4, math.MaxInt64 - 5000}[i/4%4]
		for range 150 {
			b.step(r, &next, &now)
		}
	}
}

// FuzzSteps holds a row of steps, written as bytes, against the plain ledger.
func FuzzSteps(f *testing.F) {
	f.Add([]byte("\x00\x01\x20\x00\x01\x20\x00\x01\x20\x00\x01\x20\x01\x03\x00\x02\x09\x00"))
	f.Add([]byte("\x00\x00\xff\x02\x50\x02\x00\x01\x10\x02\x60\x00\x00\x01\xff\x01\x00\x00"))
	f.Fuzz(func(t *testing.T, row []byte) {
		b := newBoth(t)
		next, now := int64(-1), int64(0)
		for ; len(row) >= 3 && len(b.p.packets) < 300; row = row[3:] {
			x, y := int64(row[1]), int64(row[2])
			switch row[0] % 6 {
			case 0, 3:
				next += x % 5
				b.sent(next, now+x/5-25, int(y*5))
			case 1:
				b.acked(from(next-x, next-x+y%8)...)
			case 2:
				now += x + y
				b.expire(now)
			case 4:
				b.acked(api.Range{Low: next - x%6, High: next}, api.Range{Low: next - x%6 - y%9 - y/9, High: next - x%6 - y%9})
			case 5:
				now = []int64{math.MinInt64, math.MinInt64 + x, -x, 0, x << 55, math.MaxInt64 - x, math.MaxInt64}[y%7]
				b.expire(now)
			}
		}
	})
}
