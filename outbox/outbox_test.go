package outbox_test

import (
	"math"
	"math/rand"
	"strconv"
	"testing"

	"vizard/api"
	"vizard/outbox"
)

const (
	buffer = 4096
	most   = 4 * buffer // bytes that may be written and not be there
)

// What became of a byte of the plain stream.
const (
	isNew   = 'n'
	isSent  = 's'
	isThere = 't'
)

var manyNumbers = []int{math.MinInt, math.MinInt + 1, -4096, -2, -1, 0, 1, 2, 3, 4095, 4096, 4097, 1 << 31, 1 << 32, math.MaxInt - 1, math.MaxInt}

// plain is a stream that forgets no byte, and that is read off the chapter.
type plain struct {
	text  string
	fates []byte
	end   byte // 0, if it was not written
	limit int64
}

func (p *plain) write(s string, fin bool) api.Errno {
	if p.end != 0 {
		return api.ErrState
	}
	missing := 0
	for _, f := range p.fates {
		if f != isThere {
			missing++
		}
	}
	if missing+len(s) > most {
		return api.ErrFull
	}
	p.text += s
	for range len(s) {
		p.fates = append(p.fates, isNew)
	}
	if fin {
		p.end = isNew
	}
	return api.OK
}

func (p *plain) allow(limit int64) {
	if limit > p.limit {
		p.limit = limit
	}
}

// maySend tells whether a place has a new byte below the limit.
func (p *plain) maySend(at int) bool {
	return at < len(p.fates) && int64(at) < p.limit && p.fates[at] == isNew
}

func (p *plain) next(n int) (outbox.Piece, bool) {
	for at := range p.fates {
		if !p.maySend(at) {
			continue
		}
		if n < 1 {
			return outbox.Piece{}, false
		}
		size := 0
		for size < n && p.maySend(at+size) {
			p.fates[at+size] = isSent
			size++
		}
		fin := p.end != 0 && at+size == len(p.text)
		if fin {
			p.end = isSent
		}
		return outbox.Piece{Off: int64(at), Data: p.text[at : at+size], Fin: fin}, true
	}
	if p.end == isNew && p.limit >= int64(len(p.text)) {
		p.end = isSent
		return outbox.Piece{Off: int64(len(p.text)), Fin: true}, true
	}
	return outbox.Piece{}, false
}

func (p *plain) acked(q outbox.Piece) {
	for i := range len(q.Data) {
		p.fates[int(q.Off)+i] = isThere
	}
	if q.Fin {
		p.end = isThere
	}
}

func (p *plain) lost(q outbox.Piece) {
	for i := range len(q.Data) {
		if p.fates[int(q.Off)+i] != isThere {
			p.fates[int(q.Off)+i] = isNew
		}
	}
	if q.Fin && p.end != isThere {
		p.end = isNew
	}
}

func (p *plain) state() (int64, int64, bool) {
	n := 0
	for n < len(p.fates) && p.fates[n] == isThere {
		n++
	}
	return int64(len(p.text)), int64(n), n == len(p.text) && p.end == isThere
}

// both is a box beside its plain stream; every step is held against it, and all pieces are remembered.
type both struct {
	t      *testing.T
	b      *outbox.Box
	p      *plain
	pieces []outbox.Piece
}

func newBoth(t *testing.T) *both {
	t.Helper()
	b := &both{t: t, b: outbox.New(), p: &plain{limit: buffer}}
	if b.b == nil {
		t.Fatal("New is nil")
	}
	b.same("New")
	return b
}

// same asks the box for its state, and twice, for asking changes nothing.
func (b *both) same(name string) {
	b.t.Helper()
	written, front, all := b.p.state()
	for range 2 {
		b.wantState(name, written, front, all)
	}
}

func (b *both) wantState(name string, written, front int64, all bool) {
	b.t.Helper()
	w, f, a := b.b.State()
	if w != written || f != front || a != all {
		b.t.Fatalf("%s: State is %d, %d, %v, want %d, %d, %v", name, w, f, a, written, front, all)
	}
}

func (b *both) write(s string, fin bool) api.Errno {
	b.t.Helper()
	e, want := b.b.Write(s, fin), b.p.write(s, fin)
	if e != want {
		b.t.Fatalf("Write(%s, %v) is %d, want %d", short(s), fin, e, want)
	}
	b.same("Write")
	return e
}

func (b *both) allow(limit int64) {
	b.t.Helper()
	b.b.Allow(limit)
	b.p.allow(limit)
	b.same("Allow")
}

func (b *both) next(n int) (outbox.Piece, bool) {
	b.t.Helper()
	p, ok := b.b.Next(n)
	want, wantOk := b.p.next(n)
	if p != want || ok != wantOk {
		b.t.Fatalf("Next(%d) is %s, %v, want %s, %v", n, told(p), ok, told(want), wantOk)
	}
	if ok {
		b.pieces = append(b.pieces, p)
	}
	b.same("Next")
	return p, ok
}

func (b *both) acked(p outbox.Piece) {
	b.t.Helper()
	b.b.Acked(p)
	b.p.acked(p)
	b.same("Acked")
}

func (b *both) lost(p outbox.Piece) {
	b.t.Helper()
	b.b.Lost(p)
	b.p.lost(p)
	b.same("Lost")
}

// wantWrite says, beside what the plain stream says, what must come of it.
func (b *both) wantWrite(s string, fin bool, want api.Errno) {
	b.t.Helper()
	if e := b.write(s, fin); e != want {
		b.t.Fatalf("Write(%s, %v) is %d, want %d", short(s), fin, e, want)
	}
}

func (b *both) wantNext(n int, off int64, data string, fin bool) outbox.Piece {
	b.t.Helper()
	want := outbox.Piece{Off: off, Data: data, Fin: fin}
	p, ok := b.next(n)
	if p != want || !ok {
		b.t.Fatalf("Next(%d) is %s, %v, want %s", n, told(p), ok, told(want))
	}
	return p
}

func (b *both) wantNone(n int) {
	b.t.Helper()
	if p, ok := b.next(n); p != (outbox.Piece{}) || ok {
		b.t.Fatalf("Next(%d) is %s, %v, want none", n, told(p), ok)
	}
}

// short is a text as it may be told.
func short(s string) string {
	if len(s) <= 24 {
		return strconv.Quote(s)
	}
	return strconv.Quote(s[:24]) + ".. of " + strconv.Itoa(len(s))
}

// told is a piece as it may be told.
func told(p outbox.Piece) string {
	return strconv.FormatInt(p.Off, 10) + " " + short(p.Data) + " " + strconv.FormatBool(p.Fin)
}

// text is bytes of which each hangs on its place: a beginning of it is a beginning of every longer one.
func text(n int) string {
	b := make([]byte, n)
	for i := range b {
		b[i] = byte(i*7 + i>>8*13)
	}
	return string(b)
}

// cut is a box with a text, and its bytes one by one on their way.
func cut(t *testing.T, s string, fin bool) *both {
	t.Helper()
	b := newBoth(t)
	b.wantWrite(s, fin, api.OK)
	for i := range len(s) {
		b.wantNext(1, int64(i), s[i:i+1], fin && i == len(s)-1)
	}
	b.wantNone(9)
	return b
}

// thereBox is a box of which so many bytes were written and are there, though the limit is as at first.
func thereBox(t *testing.T, n int) *both {
	t.Helper()
	b := newBoth(t)
	b.wantWrite(text(n), false, api.OK)
	if n > 0 {
		b.acked(b.wantNext(n, 0, text(n), false))
	}
	b.wantState("there", int64(n), int64(n), false)
	return b
}

// TestExample is promises 12.1 to 12.3 at the chapter's example.
func TestExample(t *testing.T) {
	b := newBoth(t)
	b.wantWrite("hello", true, api.OK)
	p := b.wantNext(3, 0, "hel", false)
	q := b.wantNext(9, 3, "lo", true)
	b.lost(p)
	again := b.wantNext(9, 0, "hel", false)
	b.acked(again)
	b.wantState("the first", 5, 3, false)
	b.acked(q)
	b.wantState("both", 5, 5, true)
	b.wantNone(9)
}

// TestNew is promises 12.1 to 12.3 of a stream of which nothing was written.
func TestNew(t *testing.T) {
	b := newBoth(t)
	for _, n := range manyNumbers {
		b.wantNone(n)
		b.allow(int64(n))
		b.wantNone(n)
		b.wantState("nothing was written", 0, 0, false)
	}
}

// TestWriteNothing is promise 12.1 of a text without bytes: nothing is new, and there is always room for it.
func TestWriteNothing(t *testing.T) {
	b := newBoth(t)
	for range 3 {
		b.wantWrite("", false, api.OK)
		b.wantNone(9)
	}
	b.wantWrite("a", false, api.OK)
	b.wantWrite("", false, api.OK)
	b.wantState("one byte", 1, 0, false)
	b.wantNext(9, 0, "a", false)
	b.wantNone(9)
	b = newBoth(t)
	b.wantWrite(text(most), false, api.OK)
	b.wantWrite("", false, api.OK)
	b.wantWrite("a", false, api.ErrFull)
	b.wantWrite("", true, api.OK)
	b.wantState("full", most, 0, false)
}

// TestWriteFull is promise 12.1 of as many bytes as may be, one less and one more, at once and in parts.
func TestWriteFull(t *testing.T) {
	for _, fin := range []bool{false, true} {
		for _, part := range []int{1, 2, 4095, 4096, 5000, 16383, 16384, 16385, 1 << 17} {
			b := newBoth(t)
			whole := text(most + part)
			at := 0
			for at+part <= most {
				if e := b.b.Write(whole[at:at+part], false); e != api.OK {
					t.Fatalf("Write of %d behind %d is %d", part, at, e)
				}
				b.p.write(whole[at:at+part], false)
				at += part
			}
			b.wantWrite(whole[at:at+part], fin, api.ErrFull)
			b.wantWrite(whole[at:most+1], fin, api.ErrFull)
			b.wantWrite(whole[at:max(at, most-1)], false, api.OK)
			b.wantWrite(whole[max(at, most-1):most], fin, api.OK)
			b.wantWrite("a", false, map[bool]api.Errno{false: api.ErrFull, true: api.ErrState}[fin])
			b.wantState("full", most, 0, false)
			b.allow(most)
			b.wantNext(most+1, 0, whole[:most], fin)
			b.wantNone(9)
		}
	}
}

// wantRoom holds how many bytes a box still takes against a number, at most that and not one more.
func (b *both) wantRoom(room int) {
	b.t.Helper()
	b.wantWrite(text(room+1), false, api.ErrFull)
	b.wantWrite(text(room+1), true, api.ErrFull)
	b.wantWrite(text(most+1), false, api.ErrFull)
	if room > 0 {
		b.wantWrite(text(room-1), false, api.OK)
		b.wantWrite("x", false, api.OK)
	}
	b.wantWrite("x", false, api.ErrFull)
}

// TestWriteRoom is promise 12.1: bytes that are on their way or lost take room, those that are there do not, also behind a gap.
func TestWriteRoom(t *testing.T) {
	b := newBoth(t)
	b.allow(1 << 20)
	b.wantWrite(text(most), false, api.OK)
	p := b.wantNext(100, 0, text(100), false)
	q := b.wantNext(50, 100, text(150)[100:], false)
	r := b.wantNext(1, 150, text(151)[150:], false)
	b.wantRoom(0)
	b.lost(p)
	b.wantRoom(0)
	b.acked(r)
	b.wantState("behind a gap", most, 0, false)
	b.wantRoom(1)
	b.acked(r)
	b.wantRoom(0)
	b.lost(r)
	b.wantRoom(0)
	b.acked(q)
	b.wantState("behind a gap", most+1, 0, false)
	b.wantRoom(50)
	b.acked(p) // though it was lost
	b.wantState("without a gap", most+51, 151, false)
	b.wantRoom(100)
	b.wantState("all that may be", most+151, 151, false)
}

// TestWriteEndRoom is promise 12.1: the end takes no room.
func TestWriteEndRoom(t *testing.T) {
	for _, n := range []int{0, 1, most - 1, most} {
		b := newBoth(t)
		b.wantWrite(text(n), false, api.OK)
		b.wantWrite(text(most+1), true, api.ErrFull)
		b.wantWrite(text(most+1-n), true, api.ErrFull)
		b.wantWrite(text(most-n), true, api.OK)
		b.wantWrite("", false, api.ErrState)
	}
}

// TestWriteBehindEnd is promise 12.1 behind the end: ErrState, with bytes and without, however far the end came, and ahead of ErrFull.
func TestWriteBehindEnd(t *testing.T) {
	for _, s := range []string{"", "a", "abc", text(most - 1), text(most)} {
		for stage := range 5 {
			b := newBoth(t)
			b.allow(most)
			b.wantWrite(s, true, api.OK)
			var p outbox.Piece
			if stage > 0 {
				p = b.wantNext(most, 0, s, true)
			}
			switch stage {
			case 2:
				b.lost(p)
			case 3:
				b.acked(p)
			case 4:
				b.lost(p)
				b.acked(b.wantNext(most, 0, s, true))
			}
			for _, more := range []string{"", "x", "xyz", text(most), text(most + 1)} {
				b.wantWrite(more, false, api.ErrState)
				b.wantWrite(more, true, api.ErrState)
			}
			b.wantState("ended", int64(len(s)), map[bool]int64{true: int64(len(s))}[stage >= 3], stage >= 3)
			if stage == 0 || stage == 2 {
				b.wantNext(most, 0, s, true)
			}
			b.wantNone(9)
		}
	}
}

// TestRefusedWrite is rule R2 of promise 12.1: a Write that is refused changes nothing, not even the end.
func TestRefusedWrite(t *testing.T) {
	b := newBoth(t)
	b.allow(1 << 20)
	b.wantWrite(text(most-2), false, api.OK)
	b.wantWrite("xyz", true, api.ErrFull)
	b.wantState("refused", most-2, 0, false)
	b.wantWrite(text(most)[most-2:most-1], false, api.OK) // no end was written
	p := b.wantNext(math.MaxInt, 0, text(most-1), false)
	b.wantWrite("xyz", true, api.ErrFull)
	b.wantNone(9)
	b.acked(p)
	b.wantState("refused", most-1, most-1, false)
	b.wantNone(9)
	b.wantWrite("xyz", true, api.OK)
	b.wantNext(9, most-1, "xyz", true)
	b.wantWrite("abc", true, api.ErrState)
	b.wantWrite("", true, api.ErrState)
	b.wantNone(9)
	b.wantState("refused", most+2, most-1, false)
}

// TestEnds is promises 12.1 to 12.3 of an end with bytes and of an end alone.
func TestEnds(t *testing.T) {
	for _, s := range []string{"", "a", "abc"} {
		b := newBoth(t)
		b.wantWrite(s, true, api.OK)
		p := b.wantNext(9, 0, s, true)
		b.wantNone(9)
		b.wantState("sent", int64(len(s)), 0, false)
		b.acked(p)
		b.wantState("with bytes", int64(len(s)), int64(len(s)), true)
		b.wantNone(9)

		b = newBoth(t)
		b.wantWrite(s, false, api.OK)
		b.wantWrite("", true, api.OK)
		b.wantNext(9, 0, s, true) // it was written right behind them
		b.wantNone(9)

		b = newBoth(t)
		b.wantWrite(s, false, api.OK)
		if s != "" {
			b.acked(b.wantNext(9, 0, s, false))
		}
		b.wantNone(9)
		b.wantState("no end", int64(len(s)), int64(len(s)), false)
		b.wantWrite("", true, api.OK)
		b.wantState("the end is not there", int64(len(s)), int64(len(s)), false)
		p = b.wantNext(9, int64(len(s)), "", true)
		b.wantState("the end is on its way", int64(len(s)), int64(len(s)), false)
		b.wantNone(9)
		b.lost(p)
		p = b.wantNext(9, int64(len(s)), "", true)
		b.acked(p)
		b.wantState("the end is there", int64(len(s)), int64(len(s)), true)
		b.lost(p)
		b.wantState("the end stays there", int64(len(s)), int64(len(s)), true)
		b.wantNone(9)
	}
}

// TestEndWithoutBytesThere is promise 12.3: an end that is there is not all, while bytes are not.
func TestEndWithoutBytesThere(t *testing.T) {
	b := newBoth(t)
	b.wantWrite("abc", false, api.OK)
	p := b.wantNext(2, 0, "ab", false)
	q := b.wantNext(2, 2, "c", false)
	b.wantWrite("", true, api.OK)
	end := b.wantNext(2, 3, "", true)
	b.acked(end)
	b.wantState("the end", 3, 0, false)
	b.acked(q)
	b.wantState("the last byte", 3, 0, false)
	b.acked(p)
	b.wantState("all", 3, 3, true)
}

// TestAllow is promise 12.1 of limits: only a greater one counts.
func TestAllow(t *testing.T) {
	whole := text(most)
	limits := []int64{math.MinInt64, math.MinInt64 + 1, -1 << 32, -4097, -4096, -1, 0, 1, 4095, 4096, 4097, 4098, 8191, 8192, 8193, 16383, 16384, 16385, 1 << 32, 1<<62 - 1, 1 << 62, math.MaxInt64 - 1, math.MaxInt64}
	for _, sent := range []bool{false, true} {
		for _, first := range limits {
			for _, second := range limits {
				b := newBoth(t)
				b.wantWrite(whole, false, api.OK)
				if sent {
					b.wantNext(most, 0, whole[:4096], false)
					b.wantNone(most)
				}
				b.allow(first)
				b.allow(second)
				limit := max(4096, int(min(most, max(first, second))))
				switch {
				case !sent:
					b.wantNext(most, 0, whole[:limit], false)
				case limit > 4096:
					b.wantNext(most, 4096, whole[4096:limit], false)
				}
				b.wantNone(most)
			}
		}
	}
}

// TestAllowSteps is promise 12.1: limits that grow byte by byte let go byte by byte.
func TestAllowSteps(t *testing.T) {
	b := thereBox(t, 4096)
	b.wantWrite("abcdef", true, api.OK)
	for i := range int64(6) {
		b.wantNone(9)
		b.allow(4095 + i)
		b.allow(4096 + i)
		b.wantNone(9)
		b.allow(4097 + i)
		b.allow(-1)
		b.wantNext(9, 4096+i, "abcdef"[i:i+1], i == 5)
	}
	b.wantNone(9)
}

// TestNextNumbers is promise 12.2 of how many bytes are asked for: none below 1, else at most so many.
func TestNextNumbers(t *testing.T) {
	for _, size := range []int{1, 2, 3, 100, 4095, 4096} {
		for _, n := range append(manyNumbers, size-1, size, size+1) {
			for _, fin := range []bool{false, true} {
				b := newBoth(t)
				b.wantWrite(text(size), fin, api.OK)
				if n < 1 {
					b.wantNone(n)
					b.wantNext(size, 0, text(size), fin)
					continue
				}
				k := min(n, size)
				p := b.wantNext(n, 0, text(size)[:k], fin && k == size)
				if k < size {
					b.wantNone(0)
					b.wantNext(size, int64(k), text(size)[k:], fin)
				}
				b.wantNone(n)
				b.lost(p)
				b.wantNone(math.MinInt)
				b.wantNone(-1)
				b.wantNone(0)
				b.wantNext(n, 0, text(size)[:k], fin && k == size)
				b.wantNone(n)
			}
		}
	}
}

// TestNextNothing is promise 12.2 where nothing is new: all is on its way, or there.
func TestNextNothing(t *testing.T) {
	for _, fin := range []bool{false, true} {
		b := cut(t, "abcd", fin)
		for _, i := range []int{2, 0, 3, 1} {
			for _, n := range manyNumbers {
				b.wantNone(n)
			}
			b.acked(b.pieces[i])
		}
		for _, n := range manyNumbers {
			b.wantNone(n)
		}
		b.wantState("all there", 4, 4, fin)
	}
}

// TestNextGaps is promise 12.2 of lost bytes at the front, between others and at the end, with others that are on their way or there.
func TestNextGaps(t *testing.T) {
	const whole = "abcdefgh"
	for _, fin := range []bool{false, true} {
		for from := range 8 {
			for upto := from + 1; upto <= 8; upto++ {
				for others := range 3 {
					b := cut(t, whole, fin)
					for i, p := range b.pieces {
						if inside := from <= i && i < upto; inside {
							b.lost(p)
						} else if others == 1 || others == 2 && i%2 == 0 {
							b.acked(p)
						}
					}
					b.wantNone(0)
					b.wantNext(9, int64(from), whole[from:upto], fin && upto == 8)
					b.wantNone(9)
				}
			}
		}
	}
}

// TestNextSets is promise 12.2 of every set of lost bytes: the least comes first, with those behind it up to the next gap, at most as many as asked for.
func TestNextSets(t *testing.T) {
	const whole = "abcdefg"
	for set := range 1 << 7 {
		for n := 1; n <= 8; n++ {
			b := cut(t, whole, true)
			for i, p := range b.pieces {
				if set>>i&1 == 1 {
					b.lost(p)
				}
			}
			for at := 0; at < 7; {
				size := 0
				for at+size < 7 && size < n && set>>(at+size)&1 == 1 {
					size++
				}
				if size > 0 {
					b.wantNext(n, int64(at), whole[at:at+size], at+size == 7)
				}
				at += max(size, 1)
			}
			b.wantNone(n)
		}
	}
}

// TestLostBesideUnsent is promise 12.2: bytes that were lost and bytes that were never sent are new alike, and go in one piece.
func TestLostBesideUnsent(t *testing.T) {
	b := newBoth(t)
	b.wantWrite("abcdef", false, api.OK)
	p := b.wantNext(2, 0, "ab", false)
	q := b.wantNext(2, 2, "cd", false)
	b.lost(q)
	b.wantNext(3, 2, "cde", false)
	b.lost(p)
	b.wantNext(9, 0, "ab", false)
	b.wantWrite("gh", true, api.OK)
	b.wantNext(9, 5, "fgh", true)
	b.wantNone(9)
	b.lost(q)
	b.wantNext(9, 2, "cd", false)
}

// TestLimit is promise 12.2 of bytes that end one ahead of the limit, at it, and one and more behind it.
func TestLimit(t *testing.T) {
	for _, limit := range []int{4096, 4097, 5000, 16383} {
		for _, size := range []int{limit - 1, limit, limit + 1, limit + 2, most} {
			if size > most {
				continue
			}
			for _, fin := range []bool{false, true} {
				b := newBoth(t)
				b.allow(int64(limit))
				b.wantWrite(text(size), fin, api.OK)
				upto := min(size, limit)
				p := b.wantNext(math.MaxInt, 0, text(upto), fin && upto == size)
				b.wantNone(math.MaxInt)
				b.lost(p)
				q := b.wantNext(upto-1, 0, text(upto-1), false)
				p = b.wantNext(upto, int64(upto-1), text(upto)[upto-1:], fin && upto == size)
				b.wantNone(9)
				b.acked(q)
				b.acked(p)
				b.wantNone(9)
				b.wantState("up to the limit", int64(size), int64(upto), fin && upto == size)
				b.allow(int64(size))
				if upto < size {
					b.wantNext(math.MaxInt, int64(upto), text(size)[upto:], fin)
				}
				b.wantNone(9)
			}
		}
	}
}

// TestNoneBelowLimit is promise 12.2 where new bytes lie at the limit and behind it alone, and of lost ones ahead of it.
func TestNoneBelowLimit(t *testing.T) {
	for _, fin := range []bool{false, true} {
		b := newBoth(t)
		b.wantWrite(text(4200), fin, api.OK)
		p := b.wantNext(4096, 0, text(4096), false)
		for _, n := range manyNumbers {
			b.wantNone(n)
		}
		b.lost(p)
		q := b.wantNext(4095, 0, text(4095), false)
		p = b.wantNext(4095, 4095, text(4096)[4095:], false)
		b.wantNone(9)
		b.lost(p)
		b.acked(q)
		b.wantNext(9, 4095, text(4096)[4095:], false)
		b.wantNone(9)
		b.acked(p)
		b.wantNone(9)
		b.wantState("at the limit", 4200, 4096, false)
	}
}

// TestEndAndLimit is promise 12.2 of an end alone whose place is below the limit, the limit itself, and above it.
func TestEndAndLimit(t *testing.T) {
	for _, place := range []int{0, 1, 4094, 4095, 4096, 4097, 4098, 5000} {
		for _, n := range manyNumbers {
			b := newBoth(t)
			b.wantWrite(text(place), false, api.OK)
			sent := min(place, 4096)
			if sent > 0 {
				b.wantNext(sent, 0, text(sent), false)
			}
			b.wantNone(n)
			b.wantWrite("", true, api.OK)
			if place > 4096 {
				b.wantNone(n)
				b.allow(int64(place - 1))
				for range place - 1 - sent {
					b.next(1)
				}
				b.wantNone(n)
				b.allow(int64(place))
				b.wantNext(9, int64(place-1), text(place)[place-1:], true)
			} else {
				b.wantNext(n, int64(place), "", true)
			}
			b.wantNone(n)
		}
	}
}

// TestEndNumbers is promise 12.2 of an end alone, whatever number is asked for, and of an end behind new bytes, where a number below 1 answers none.
func TestEndNumbers(t *testing.T) {
	for _, n := range manyNumbers {
		b := newBoth(t)
		b.wantWrite("", true, api.OK)
		p := b.wantNext(n, 0, "", true)
		b.wantNone(n)
		b.lost(p)
		b.wantNext(n, 0, "", true)

		b = thereBox(t, 3)
		b.wantWrite("", true, api.OK)
		b.wantNext(n, 3, "", true)
		b.wantNone(n)

		b = cut(t, "ab", true)
		b.lost(b.pieces[1])
		b.lost(b.pieces[0])
		if n < 1 {
			b.wantNone(n)
		}
		b.wantNext(1, 0, "a", false)
		if n < 1 {
			b.wantNone(n)
		}
		b.wantNext(1, 1, "b", true)
		b.wantNone(n)

		b = newBoth(t)
		b.wantWrite("ab", false, api.OK)
		p = b.wantNext(9, 0, "ab", false)
		b.wantWrite("", true, api.OK)
		b.lost(p)
		if n < 1 {
			b.wantNone(n) // the end is new, but so are bytes
		}
		b.wantNext(9, 0, "ab", true)
		b.wantNone(n)
	}
}

// TestEndLost is promises 12.2 and 12.3 of an end that was lost where its bytes are there: it goes alone.
func TestEndLost(t *testing.T) {
	b := newBoth(t)
	b.wantWrite("abc", false, api.OK)
	p := b.wantNext(9, 0, "abc", false)
	b.wantWrite("", true, api.OK)
	end := b.wantNext(9, 3, "", true)
	b.lost(end)
	b.wantNext(0, 3, "", true)
	b.wantNone(0)
	b.acked(p)
	b.wantState("the end is on its way", 3, 3, false)
	b.lost(end)
	b.lost(end)
	end = b.wantNext(9, 3, "", true)
	b.wantNone(9)
	b.acked(end)
	b.wantState("all", 3, 3, true)
}

// behindLost is a box whose last bytes were lost, the end behind them having been sent alone.
func behindLost(t *testing.T) (*both, outbox.Piece, outbox.Piece) {
	t.Helper()
	b := newBoth(t)
	b.wantWrite("abcd", false, api.OK)
	b.wantNext(2, 0, "ab", false)
	last := b.wantNext(2, 2, "cd", false)
	b.wantWrite("", true, api.OK)
	end := b.wantNext(2, 4, "", true)
	b.lost(last)
	return b, last, end
}

// TestEndBehindLost is promise 12.2 of the end right behind a piece that was lost: Fin, whether the end itself was sent, was lost, or is there.
func TestEndBehindLost(t *testing.T) {
	for fate := range 3 {
		for _, n := range []int{1, 2, 9} {
			b, _, end := behindLost(t)
			switch fate {
			case 1:
				b.lost(end)
			case 2:
				b.acked(end)
			}
			b.wantNone(0)
			if n == 1 {
				b.wantNext(n, 2, "c", false)
				b.wantNone(-1)
				b.wantNext(n, 3, "d", true)
			} else {
				b.wantNext(n, 2, "cd", true)
			}
			b.wantNone(n)
			b.wantState("sent again", 4, 0, false)
			again := b.pieces[len(b.pieces)-1]
			b.lost(again)
			again = b.wantNext(n, again.Off, again.Data, true)
			for _, p := range b.pieces {
				if !p.Fin {
					b.acked(p)
				}
			}
			b.acked(again)
			b.wantState("all", 4, 4, true)
			b.wantNone(n)
		}
	}
}

// TestEndOnItsWayAgain is promise 12.2: with Fin the end is on its way, also if it was there: so the words say.
func TestEndOnItsWayAgain(t *testing.T) {
	b, last, end := behindLost(t)
	b.acked(end)
	again := b.wantNext(9, 2, "cd", true)
	b.acked(b.pieces[0])
	b.acked(last)
	b.wantState("all bytes", 4, 4, false)
	b.wantNone(9)
	b.lost(again)
	b.wantState("the end was lost", 4, 4, false)
	b.acked(b.wantNext(0, 4, "", true))
	b.wantState("all", 4, 4, true)
}

// TestTwice is promise 12.3 of a piece that is told twice, as there or as lost.
func TestTwice(t *testing.T) {
	b := cut(t, "abc", true)
	b.acked(b.pieces[1])
	b.acked(b.pieces[1])
	b.wantState("behind a gap", 3, 0, false)
	b.lost(b.pieces[0])
	b.lost(b.pieces[0])
	b.wantNext(9, 0, "a", false)
	b.wantNone(9)
	b.lost(b.pieces[0])
	b.wantNext(9, 0, "a", false)
	b.acked(b.pieces[0])
	b.acked(b.pieces[0])
	b.acked(b.pieces[1])
	b.wantState("two", 3, 2, false)
	b.acked(b.pieces[2])
	b.acked(b.pieces[2])
	b.wantState("all", 3, 3, true)
	b.wantNone(9)
}

// TestLostThere is promise 12.3: what is there stays there, also where only a part of the piece is.
func TestLostThere(t *testing.T) {
	b := newBoth(t)
	b.wantWrite("abcdef", true, api.OK)
	whole := b.wantNext(9, 0, "abcdef", true)
	b.lost(whole)
	front := b.wantNext(2, 0, "ab", false)
	middle := b.wantNext(2, 2, "cd", false)
	b.acked(middle)
	b.lost(middle)
	b.wantState("the middle", 6, 0, false)
	b.lost(whole)
	b.wantNext(9, 0, "ab", false)
	b.wantNext(9, 4, "ef", true)
	b.wantNone(9)
	b.acked(front)
	b.lost(front)
	b.lost(whole)
	b.wantState("the front", 6, 4, false)
	last := b.wantNext(9, 4, "ef", true)
	b.wantNone(9)
	b.acked(last)
	b.lost(last)
	b.lost(whole)
	b.wantState("all", 6, 6, true)
	b.wantNone(9)
}

// TestAckedLost is promise 12.3 of a piece that is there after all: when it was lost, and when it was sent again.
func TestAckedLost(t *testing.T) {
	b := newBoth(t)
	b.wantWrite("abcdef", true, api.OK)
	p := b.wantNext(4, 0, "abcd", false)
	b.lost(p)
	b.acked(p)
	b.wantState("lost and there", 6, 4, false)
	q := b.wantNext(9, 4, "ef", true)
	b.lost(q)
	again := b.wantNext(9, 4, "ef", true)
	b.acked(q)
	b.wantState("sent again and there", 6, 6, true)
	b.lost(again)
	b.wantState("the other one lost", 6, 6, true)
	b.wantNone(9)

	b = newBoth(t)
	b.wantWrite("abcdef", true, api.OK)
	p = b.wantNext(9, 0, "abcdef", true)
	b.lost(p)
	part := b.wantNext(2, 0, "ab", false)
	other := b.wantNext(2, 2, "cd", false)
	b.lost(other)
	b.acked(p)
	b.wantState("sent again in parts", 6, 6, true)
	b.lost(part)
	b.lost(p)
	b.wantNone(9)
}

// orders calls something with every order of the numbers below n.
func orders(n int, with func(order []int)) {
	var rest func(order []int)
	rest = func(order []int) {
		if len(order) == n {
			with(order)
			return
		}
	next:
		for i := range n {
			for _, j := range order {
				if i == j {
					continue next
				}
			}
			rest(append(order[:len(order):len(order)], i))
		}
	}
	rest(nil)
}

// TestEveryOrder is promise 12.3 of pieces that are told in every order, each of them as there or as lost.
func TestEveryOrder(t *testing.T) {
	const whole = "abcdefgh"
	sizes := []int{2, 1, 3, 1, 1}
	orders(len(sizes), func(order []int) {
		for lost := range 1 << len(sizes) {
			b := newBoth(t)
			b.wantWrite(whole, true, api.OK)
			for _, n := range sizes {
				b.next(n)
			}
			for _, i := range order {
				if lost>>i&1 == 1 {
					b.lost(b.pieces[i])
				} else {
					b.acked(b.pieces[i])
				}
			}
			b.drain(2)
			b.wantState("all", 8, 8, true)
		}
	})
}

// TestAllBytes is promise 12.4 of every byte, also of those that are no text of UTF-8.
func TestAllBytes(t *testing.T) {
	all := make([]byte, 256)
	for i := range all {
		all[i] = byte(i)
	}
	b := newBoth(t)
	b.wantWrite(string(all), true, api.OK)
	p := b.wantNext(200, 0, string(all[:200]), false)
	q := b.wantNext(200, 200, string(all[200:]), true)
	b.lost(p)
	b.wantNext(200, 0, string(all[:200]), false)
	b.acked(q)
	b.acked(p)
	b.wantState("all", 256, 256, true)
}

// TestBytesBehindForgotten is promise 12.4: when those ahead are there, bytes keep their places and what they are.
func TestBytesBehindForgotten(t *testing.T) {
	whole := text(9000)
	b := newBoth(t)
	b.allow(9000)
	b.wantWrite(whole[:5000], false, api.OK)
	p := b.wantNext(3000, 0, whole[:3000], false)
	q := b.wantNext(1500, 3000, whole[3000:4500], false)
	b.acked(p)
	b.wantWrite(whole[5000:], true, api.OK)
	b.lost(q)
	b.lost(p)
	b.wantNext(1000, 3000, whole[3000:4000], false)
	b.wantNext(9000, 4000, whole[4000:], true)
	b.acked(q)
	b.wantState("two", 9000, 4500, false)
	b.lost(b.pieces[len(b.pieces)-1])
	b.wantNext(9000, 4500, whole[4500:], true)
	b.wantNone(9)
}

// TestPiecesStay is rule R4: a piece that was answered stays what it was, whatever becomes of the box.
func TestPiecesStay(t *testing.T) {
	b := newBoth(t)
	b.allow(1 << 20)
	b.wantWrite("abcdef", false, api.OK)
	p := b.wantNext(3, 0, "abc", false)
	q := b.wantNext(3, 3, "def", false)
	b.acked(p)
	b.lost(q)
	for range 50 {
		b.wantWrite(text(300), false, api.OK)
		r, _ := b.next(1000)
		b.acked(r)
	}
	if p != (outbox.Piece{Data: "abc"}) || q != (outbox.Piece{Off: 3, Data: "def"}) {
		t.Fatalf("the pieces are %s and %s now", told(p), told(q))
	}
}

// TestBeside is promise 12.1: what was written to one box was not written to another.
func TestBeside(t *testing.T) {
	a, b := newBoth(t), newBoth(t)
	a.wantWrite("abc", true, api.OK)
	b.same("the other one was written to")
	b.wantNone(9)
	b.wantWrite("xyz", false, api.OK)
	p := a.wantNext(2, 0, "ab", false)
	b.wantNext(9, 0, "xyz", false)
	a.allow(1 << 20)
	a.acked(p)
	b.same("the other one's piece is there")
	b.wantWrite(text(5000), false, api.OK)
	b.wantNext(9000, 3, text(4093), false)
	b.wantNone(9)
	a.acked(a.wantNext(9, 2, "c", true))
	a.wantState("all", 3, 3, true)
	newBoth(t).wantNone(9)
}

// wrongPieces are pieces that Next has not answered.
func wrongPieces() []outbox.Piece {
	var all []outbox.Piece
	for _, off := range []int64{math.MinInt64, math.MinInt64 + 1, -1 << 32, -3, -2, -1, 0, 1, 2, 3, 4, 6, 7, 4095, 4096, 4097, 1 << 31, 1 << 32, 1<<62 - 1, 1 << 62, math.MaxInt64 - 3, math.MaxInt64 - 1, math.MaxInt64} {
		for _, data := range []string{"", "x", "xy", "xyz", text(100), text(5000), text(most + 1)} {
			all = append(all, outbox.Piece{Off: off, Data: data}, outbox.Piece{Off: off, Data: data, Fin: true})
		}
	}
	return all
}

// boxes are boxes in which a stream may be when something wrong comes.
func boxes() map[string]func() *outbox.Box {
	return map[string]func() *outbox.Box{
		"new": outbox.New,
		"written": func() *outbox.Box {
			b := outbox.New()
			b.Write("abcdef", false)
			return b
		},
		"ended": func() *outbox.Box {
			b := outbox.New()
			b.Write("abcdef", true)
			b.Next(3)
			return b
		},
		"some there": func() *outbox.Box {
			b := outbox.New()
			b.Write(text(5000), true)
			p, _ := b.Next(2)
			b.Acked(p)
			b.Next(2)
			p, _ = b.Next(2)
			b.Acked(p)
			return b
		},
		"all there": func() *outbox.Box {
			b := outbox.New()
			b.Write("abc", true)
			p, _ := b.Next(3)
			b.Acked(p)
			return b
		},
	}
}

// TestWrongPieces is rule R1 of pieces that Next has not answered: every call ends, none panics, and so do the calls behind it.
func TestWrongPieces(t *testing.T) {
	for name, fresh := range boxes() {
		for _, p := range wrongPieces() {
			for way := range 3 {
				b := fresh()
				was, _, _ := b.State()
				switch way {
				case 0:
					b.Acked(p)
				case 1:
					b.Lost(p)
				case 2:
					b.Acked(p)
					b.Lost(p)
				}
				written, front, _ := b.State()
				if written != was || front < 0 || front > written {
					t.Fatalf("%s: %s: State is %d, %d, and %d were written", name, told(p), written, front, was)
				}
				b.Write("x", false)
				b.Allow(1 << 20)
				for range 4 {
					b.Next(3)
				}
				b.Write("", true)
				b.Next(0)
				b.State()
			}
		}
	}
}

// TestPiecesOutside is promise 12.3 of pieces that lie outside of what was written, and of an end that was not: nothing of it becomes there, or new.
func TestPiecesOutside(t *testing.T) {
	for _, off := range []int64{math.MinInt64, -4, 6, 7, 1 << 32, math.MaxInt64 - 1, math.MaxInt64} {
		for _, data := range []string{"", "x", "xyz"} {
			b := cut(t, "abcdef", false)
			for _, fin := range []bool{false, true} {
				b.b.Acked(outbox.Piece{Off: off, Data: data, Fin: fin})
				b.same("Acked outside")
				b.b.Lost(outbox.Piece{Off: off, Data: data, Fin: fin})
				b.same("Lost outside")
				b.wantNone(9)
			}
			b.wantWrite("g", true, api.OK)
			p := b.wantNext(9, 6, "g", true)
			for _, q := range b.pieces {
				b.acked(q)
			}
			b.wantState("all", 7, 7, true)
			b.lost(p)
			b.wantNone(9)
		}
	}
}

// link is a stream's other end: it takes pieces, and tells what was written.
type link struct {
	t     *testing.T
	whole string
	got   []int // by their places; -1, if none came
	ended bool
}

func newLink(t *testing.T, whole string) *link {
	l := &link{t: t, whole: whole, got: make([]int, len(whole))}
	for i := range l.got {
		l.got[i] = -1
	}
	return l
}

// take takes a piece, and holds its bytes against what was written at its places.
func (l *link) take(p outbox.Piece) {
	l.t.Helper()
	end := int(p.Off) + len(p.Data)
	if p.Off < 0 || end > len(l.whole) || p.Data != l.whole[p.Off:end] || p.Fin && end != len(l.whole) {
		l.t.Fatalf("the piece %s is not what was written", told(p))
	}
	for i := range len(p.Data) {
		l.got[int(p.Off)+i] = int(p.Data[i])
	}
	l.ended = l.ended || p.Fin
}

// wantWhole asks for all bytes and the end.
func (l *link) wantWhole() {
	l.t.Helper()
	for i, v := range l.got {
		if v != int(l.whole[i]) {
			l.t.Fatalf("at %d came %d", i, v)
		}
	}
	if !l.ended {
		l.t.Fatal("the end did not come")
	}
}

// TestComesWhole is promise 12.4: a text comes whole whatever is lost, as long as some pieces are there, in any order.
func TestComesWhole(t *testing.T) {
	r := rand.New(rand.NewSource(12))
	for _, size := range []int{0, 1, 2, 50, 4096, 4097, 60000} {
		for _, lossy := range []int{0, 50, 90} {
			whole := text(size)
			l := newLink(t, whole)
			b := outbox.New()
			var way []outbox.Piece
			written, steps, ended := 0, 0, false
			for ; ; steps++ {
				_, front, all := b.State()
				if all {
					break
				}
				if steps > 2000000 {
					t.Fatalf("%d of %d bytes are there", front, size)
				}
				b.Allow(front + buffer)
				if more := min(size, written+r.Intn(3000)); !ended && b.Write(whole[written:more], more == size) == api.OK {
					written, ended = more, more == size
				}
				for range r.Intn(4) {
					if p, ok := b.Next(1 + r.Intn(1+r.Intn(1200))); ok {
						if p.Off+int64(len(p.Data)) > front+buffer {
							t.Fatalf("the piece %s goes beyond the limit %d", told(p), front+buffer)
						}
						way = append(way, p)
					}
				}
				if len(way) == 0 {
					continue
				}
				i := r.Intn(len(way))
				if p := way[i]; r.Intn(100) < lossy {
					b.Lost(p)
				} else {
					l.take(p)
					b.Acked(p)
				}
				way = append(way[:i], way[i+1:]...)
			}
			l.wantWhole()
			if n, front, _ := b.State(); n != int64(size) || front != int64(size) {
				t.Fatalf("State is %d, %d, of %d", n, front, size)
			}
		}
	}
}

// TestLateGap is promises 12.1 to 12.3 of a stream that goes on far behind a byte that is not there.
func TestLateGap(t *testing.T) {
	const size = 200000
	whole := text(size)
	b := outbox.New()
	b.Allow(size)
	b.Write(whole[:1], false)
	first, _ := b.Next(1)
	for at := 1; at < size; {
		upto := min(size, at+most-1)
		if e := b.Write(text(most), true); e != api.ErrFull {
			t.Fatalf("one more, behind %d, is %d", at, e)
		}
		if e := b.Write(whole[at:upto], upto == size); e != api.OK {
			t.Fatalf("behind %d: %d", at, e)
		}
		for at < upto {
			p, ok := b.Next(1000)
			end := min(at+1000, upto)
			if want := (outbox.Piece{Off: int64(at), Data: whole[at:end], Fin: end == size}); !ok || p != want {
				t.Fatalf("Next is %s, want %s", told(p), told(want))
			}
			b.Acked(p)
			at = end
		}
		if _, front, all := b.State(); front != 0 || all {
			t.Fatalf("%d are there without the first", front)
		}
	}
	b.Lost(first)
	if p, ok := b.Next(9); !ok || p != first {
		t.Fatalf("Next is %s, want the first byte", told(p))
	}
	b.Acked(first)
	if n, front, all := b.State(); n != size || front != size || !all {
		t.Fatalf("State is %d, %d, %v", n, front, all)
	}
}

// act is one of some small steps.
type act struct {
	kind string
	n    int
	s    string
	fin  bool
}

// smallActs are steps of which rows are made.
func smallActs() []act {
	return []act{
		{kind: "write", s: "a"}, {kind: "write", s: "bc"}, {kind: "write", s: "d", fin: true}, {kind: "write", fin: true},
		{kind: "next", n: 0}, {kind: "next", n: 1}, {kind: "next", n: 9},
		{kind: "acked", n: 0}, {kind: "acked", n: 1}, {kind: "lost", n: 0}, {kind: "lost", n: 1},
		{kind: "allow", n: 4097},
	}
}

// do does a small step with both streams; a piece is told by how many were answered behind it.
func (b *both) do(a act) {
	b.t.Helper()
	switch a.kind {
	case "write":
		b.write(a.s, a.fin)
		return
	case "next":
		b.next(a.n)
		return
	case "allow":
		b.allow(int64(a.n))
		return
	}
	if a.n >= len(b.pieces) {
		return
	}
	p := b.pieces[len(b.pieces)-1-a.n]
	if a.kind == "acked" {
		b.acked(p)
	} else {
		b.lost(p)
	}
}

// drain sends, so many bytes at a time, and tells as there all that may be sent.
func (b *both) drain(n int) {
	b.t.Helper()
	for {
		p, ok := b.next(n)
		if !ok {
			return
		}
		b.acked(p)
	}
}

// TestSmallRows is promises 12.1 to 12.3 of every row of five small steps, at the beginning and where a piece and an end alone are on their way, held against the plain stream.
func TestSmallRows(t *testing.T) {
	acts := smallActs()[:11]
	n := len(acts)
	for row := range n * n * n * n * n {
		b, c := newBoth(t), newBoth(t)
		c.write("xyz", false)
		c.next(9)
		c.write("", true)
		c.next(9)
		for ; row > 0; row /= n {
			b.do(acts[row%n])
			c.do(acts[row%n])
		}
		b.drain(2)
		c.drain(2)
	}
}

// TestSmallRowsAtLimit is promises 12.1 to 12.3 of every row of four small steps right below the limit.
func TestSmallRowsAtLimit(t *testing.T) {
	acts := smallActs()
	n := len(acts)
	ahead := text(4095)
	for row := range n * n * n * n {
		b := &both{t: t, b: outbox.New(), p: &plain{limit: buffer}}
		b.b.Write(ahead, false)
		b.p.write(ahead, false)
		p, _ := b.b.Next(4095)
		b.p.next(4095)
		b.b.Acked(p)
		b.p.acked(p)
		for ; row > 0; row /= n {
			b.do(acts[row%n])
		}
		b.drain(2)
	}
}

// step does with both streams something by chance.
func (b *both) step(r *rand.Rand) {
	b.t.Helper()
	size := r.Intn(12)
	if r.Intn(10) == 0 {
		size = r.Intn(9000)
	}
	switch kind := r.Intn(200); {
	case kind < 60:
		data := make([]byte, size)
		for i := range data {
			data[i] = byte(r.Intn(256))
		}
		b.write(string(data), false)
	case kind < 61:
		b.write(text(size), true)
	case kind < 66:
		b.allow(int64(len(b.p.text) + r.Intn(20) - 10))
	case kind < 68:
		b.allow(int64(r.Intn(20000)))
	case kind < 130 || len(b.pieces) == 0:
		b.next(size + r.Intn(3) - 1)
	default:
		p := b.pieces[max(r.Intn(len(b.pieces)), len(b.pieces)-1-r.Intn(12))]
		if kind%2 == 0 {
			b.acked(p)
		} else {
			b.lost(p)
		}
	}
}

// TestRandomRows is promises 12.1 to 12.3 of rows of steps, held against the plain stream.
func TestRandomRows(t *testing.T) {
	r := rand.New(rand.NewSource(12))
	for range 200 {
		b := newBoth(t)
		for range 200 {
			b.step(r)
		}
		b.allow(math.MaxInt64)
		for _, p := range b.pieces {
			if r.Intn(2) == 0 {
				b.lost(p)
			} else {
				b.acked(p)
			}
		}
	}
}

// FuzzSteps holds a row of steps, written as bytes, against the plain stream.
func FuzzSteps(f *testing.F) {
	f.Add([]byte("\x01\x05\x00\x02\x03\x00\x02\x09\x00\x04\x01\x00\x02\x09\x00\x03\x00\x00\x03\x01\x00"))
	f.Add([]byte("\x06\x00\x40\x02\xff\xff\x05\x10\x01\x02\xff\xff\x04\x00\x00\x06\x00\x10\x02\xff\xff"))
	f.Add([]byte("\x00\x02\x00\x02\x09\x00\x01\x00\x00\x02\x00\x00\x03\x00\x00\x04\x01\x00\x02\x09\x00\x03\x02\x00"))
	f.Fuzz(func(t *testing.T, row []byte) {
		b := newBoth(t)
		for i := 0; len(row) >= 3 && i < 200; i, row = i+1, row[3:] {
			x, y := int(row[1]), int(row[2])
			switch kind := row[0] % 7; {
			case kind == 0:
				b.write(text(x + i)[i:], false)
			case kind == 1:
				b.write(text(x + i)[i:], y%4 == 0)
			case kind == 2:
				b.next(x*(1+y) - 1)
			case kind == 5:
				b.allow(int64(len(b.p.text) + x - 128))
			case kind == 6:
				b.write(text(x+y*256), false)
			case len(b.pieces) == 0:
			case kind == 3:
				b.acked(b.pieces[x%len(b.pieces)])
			case kind == 4:
				b.lost(b.pieces[x%len(b.pieces)])
			}
		}
		b.drain(1000)
	})
}
