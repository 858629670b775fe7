package inbox_test

import (
	"math"
	"math/rand"
	"strconv"
	"strings"
	"testing"

	"vizard/api"
	"vizard/inbox"
)

const (
	greatest = int64(1<<62 - 1)
	buffer   = int64(4096)
)

var wrongPlaces = []int64{math.MinInt64, math.MinInt64 + 1, -1 << 62, -4096, -2, -1, 1 << 62, 1<<62 + 1, math.MaxInt64 - 4096, math.MaxInt64 - 1, math.MaxInt64}

// plain is a stream that forgets no byte, and that is read off the chapter.
type plain struct {
	bytes []int // by their places; -1, if none came
	read  int64
	size  int64
	known bool
	reset bool
}

func (p *plain) limit() int64 { return p.read + buffer }

// cameFrom tells whether a byte came at a place or behind it.
func (p *plain) cameFrom(place int64) bool {
	for at := place; at < int64(len(p.bytes)); at++ {
		if p.bytes[at] >= 0 {
			return true
		}
	}
	return false
}

func (p *plain) put(off int64, data string, fin bool) api.Errno {
	if off < 0 || off > greatest {
		return api.ErrRange
	}
	end := off + int64(len(data))
	if end > p.limit() {
		return api.ErrFlow
	}
	if p.known && end > p.size || p.known && fin && end != p.size || fin && p.cameFrom(end) {
		return api.ErrFinal
	}
	if p.reset {
		return api.OK
	}
	for i := range len(data) {
		at := int(off) + i
		for len(p.bytes) <= at {
			p.bytes = append(p.bytes, -1)
		}
		if p.bytes[at] < 0 {
			p.bytes[at] = int(data[i])
		}
	}
	if fin {
		p.size, p.known = end, true
	}
	return api.OK
}

func (p *plain) doReset(size int64) api.Errno {
	switch {
	case size < 0 || size > greatest:
		return api.ErrRange
	case size > p.limit():
		return api.ErrFlow
	case p.known && size != p.size || p.cameFrom(size):
		return api.ErrFinal
	}
	if p.how() != 1 {
		p.size, p.known, p.reset = size, true, true
	}
	return api.OK
}

func (p *plain) take(n int) string {
	var s strings.Builder
	for !p.reset && s.Len() < n && p.read < int64(len(p.bytes)) && p.bytes[p.read] >= 0 {
		s.WriteByte(byte(p.bytes[p.read]))
		p.read++
	}
	return s.String()
}

func (p *plain) how() int {
	if p.reset {
		return 2
	}
	if p.known && p.read == p.size {
		return 1
	}
	return 0
}

// both is a box beside its plain stream; every step is held against it, and all that was read is gathered.
type both struct {
	t   *testing.T
	b   *inbox.Box
	p   *plain
	all strings.Builder
}

func newBoth(t *testing.T) *both {
	t.Helper()
	b := &both{t: t, b: inbox.New(), p: &plain{}}
	if b.b == nil {
		t.Fatal("New is nil")
	}
	b.same("New")
	return b
}

// same asks the box for its state, and twice, for asking changes nothing.
func (b *both) same(name string) {
	b.t.Helper()
	for range 2 {
		b.wantState(name, b.p.read, b.p.limit(), b.p.how())
	}
}

func (b *both) wantState(name string, read, limit int64, how int) {
	b.t.Helper()
	r, l, h := b.b.State()
	if r != read || l != limit || h != how {
		b.t.Fatalf("%s: State is %d, %d, %d, want %d, %d, %d", name, r, l, h, read, limit, how)
	}
}

func (b *both) put(off int64, data string, fin bool) api.Errno {
	b.t.Helper()
	e, want := b.b.Put(off, data, fin), b.p.put(off, data, fin)
	if e != want {
		b.t.Fatalf("Put(%d, %s, %v) is %d, want %d", off, short(data), fin, e, want)
	}
	b.same("Put")
	return e
}

func (b *both) reset(size int64) api.Errno {
	b.t.Helper()
	e, want := b.b.Reset(size), b.p.doReset(size)
	if e != want {
		b.t.Fatalf("Reset(%d) is %d, want %d", size, e, want)
	}
	b.same("Reset")
	return e
}

func (b *both) read(n int) string {
	b.t.Helper()
	s, want := b.b.Read(n), b.p.take(n)
	if s != want {
		b.t.Fatalf("Read(%d) is %s, want %s", n, short(s), short(want))
	}
	b.all.WriteString(s)
	b.same("Read")
	return s
}

// wantPut says, beside what the plain stream says, what must come of it.
func (b *both) wantPut(off int64, data string, fin bool, want api.Errno) {
	b.t.Helper()
	if e := b.put(off, data, fin); e != want {
		b.t.Fatalf("Put(%d, %s, %v) is %d, want %d", off, short(data), fin, e, want)
	}
}

func (b *both) wantReset(size int64, want api.Errno) {
	b.t.Helper()
	if e := b.reset(size); e != want {
		b.t.Fatalf("Reset(%d) is %d, want %d", size, e, want)
	}
}

func (b *both) wantRead(n int, want string) {
	b.t.Helper()
	if s := b.read(n); s != want {
		b.t.Fatalf("Read(%d) is %s, want %s", n, short(s), short(want))
	}
}

// wantDrained reads all that is there, and holds everything that was ever read against it.
func (b *both) wantDrained(want string) {
	b.t.Helper()
	b.read(math.MaxInt)
	b.wantRead(math.MaxInt, "")
	if s := b.all.String(); s != want {
		b.t.Fatalf("%s was read in all, want %s", short(s), short(want))
	}
}

// short is a text as it may be told.
func short(s string) string {
	if len(s) <= 24 {
		return strconv.Quote(s)
	}
	return strconv.Quote(s[:24]) + ".."
}

// text is bytes of which each hangs on its place: a beginning of it is a beginning of every longer one.
func text(n int) string {
	b := make([]byte, n)
	for i := range b {
		b[i] = byte(i*7 + i>>8*13)
	}
	return string(b)
}

// readBox is a box of which so many bytes came and were read.
func readBox(t *testing.T, n int) *both {
	t.Helper()
	b := newBoth(t)
	for at := 0; at < n; {
		piece := min(n-at, 4096)
		b.wantPut(int64(at), text(n)[at:at+piece], false, api.OK)
		b.wantRead(piece, text(n)[at:at+piece])
		at += piece
	}
	b.wantState("read", int64(n), int64(n)+buffer, 0)
	return b
}

// TestExample is promises 11.1 and 11.3 at the chapter's example.
func TestExample(t *testing.T) {
	b := newBoth(t)
	b.wantPut(2, "cd", false, api.OK)
	b.wantRead(9, "")
	b.wantPut(0, "abc", false, api.OK)
	b.wantRead(9, "abcd")
	b.wantState("read", 4, 4100, 0)
	b.wantPut(9, "x", true, api.OK)
	b.wantPut(11, "y", false, api.ErrFinal)
	b.wantPut(0, text(5000), false, api.ErrFlow)
	b.wantState("example", 4, 4100, 0)
	b.wantPut(4, "efghi", false, api.OK)
	b.wantRead(9, "efghix")
	b.wantState("all", 10, 4106, 1)
}

// TestNew is promises 11.1 and 11.3 of a stream of which nothing came.
func TestNew(t *testing.T) {
	b := newBoth(t)
	b.wantState("new", 0, 4096, 0)
	for _, n := range []int{math.MinInt, -1, 0, 1, 4096, math.MaxInt} {
		b.wantRead(n, "")
		b.wantState("nothing came", 0, 4096, 0)
	}
}

// states are boxes in which a stream may be when something wrong comes.
func states(t *testing.T) map[string]func() *both {
	return map[string]func() *both{
		"new": func() *both { return newBoth(t) },
		"some came": func() *both {
			b := newBoth(t)
			b.put(0, "abc", false)
			b.put(5, "fg", false)
			return b
		},
		"some read": func() *both {
			b := readBox(t, 3)
			b.put(5, "fg", false)
			return b
		},
		"size known": func() *both {
			b := readBox(t, 3)
			b.put(5, "fg", true)
			return b
		},
		"all read": func() *both {
			b := readBox(t, 3)
			b.put(3, "de", true)
			b.read(9)
			return b
		},
		"reset": func() *both {
			b := readBox(t, 3)
			b.put(5, "fg", false)
			b.reset(9)
			return b
		},
		"reset when nothing came": func() *both {
			b := newBoth(t)
			b.reset(0)
			return b
		},
	}
}

// TestPutRange is promise 11.1 of places that are none: ErrRange, whatever else is wrong, and nothing changes.
func TestPutRange(t *testing.T) {
	for name, fresh := range states(t) {
		b := fresh()
		read, limit, how := b.b.State()
		for _, off := range wrongPlaces {
			for _, data := range []string{"", "x", "xyz", text(4096), text(4097), text(1 << 17)} {
				b.wantPut(off, data, false, api.ErrRange)
				b.wantPut(off, data, true, api.ErrRange)
			}
		}
		b.wantState(name, read, limit, how)
		b.read(9)
	}
	b := newBoth(t)
	b.wantPut(-1, "xab", false, api.ErrRange) // though some of its bytes would stand at places
	b.wantRead(9, "")
	b.wantPut(0, "", false, api.OK)
	b.wantPut(0, "c", false, api.OK)
	b.wantRead(9, "c")
}

// TestPutFarPlaces is promise 11.1 of right places that lie far behind the limit: ErrFlow, with bytes and without.
func TestPutFarPlaces(t *testing.T) {
	for name, fresh := range states(t) {
		b := fresh()
		read, limit, how := b.b.State()
		for _, off := range []int64{limit + 1, 1 << 31, 1 << 32, 1<<32 + 1, 1 << 61, greatest - 4096, greatest - 1, greatest} {
			for _, data := range []string{"", "x", text(4097)} {
				b.wantPut(off, data, false, api.ErrFlow)
				b.wantPut(off, data, true, api.ErrFlow)
			}
		}
		b.wantState(name, read, limit, how)
	}
}

// TestPutFlow is promise 11.1 of pieces that end one byte ahead of the limit, at it and behind it, before anything was read and after.
func TestPutFlow(t *testing.T) {
	for _, read := range []int{0, 1, 4095, 4096, 4097, 10000} {
		limit := read + 4096
		whole := text(limit + 1)
		for _, size := range []int{0, 1, 2, 100, 4095, 4096} {
			for _, end := range []int{limit - 1, limit, limit + 1} {
				off := max(0, end-size)
				b := readBox(t, read)
				b.wantPut(int64(off), whole[off:end], false, errIf(end > limit, api.ErrFlow))
				b.wantPut(int64(read), whole[read:limit], false, api.OK)
				b.wantDrained(whole[:limit])

				b = readBox(t, read)
				b.wantPut(int64(off), whole[off:end], true, errIf(end > limit, api.ErrFlow))
				b.wantPut(int64(limit), "", false, errIf(end < limit, api.ErrFinal)) // which tells whether a size is known
				b.wantState("put", int64(read), int64(limit), 0)
				b.wantPut(int64(read), whole[read:limit-1], false, api.OK)
				b.wantPut(int64(limit-1), whole[limit-1:limit], true, errIf(end < limit, api.ErrFinal))
				b.wantDrained(whole[:min(end, limit)])
				b.wantState("all", int64(min(end, limit)), int64(min(end, limit))+buffer, 1)
			}
		}
	}
}

// errIf is an error, where something holds.
func errIf(holds bool, e api.Errno) api.Errno {
	if holds {
		return e
	}
	return api.OK
}

// TestPutFlowOld is promise 11.1: what was read counts, where a piece is too long; it may be as long as the limit.
func TestPutFlowOld(t *testing.T) {
	b := readBox(t, 1000)
	whole := text(5097)
	b.wantPut(0, whole, false, api.ErrFlow)
	b.wantRead(9, "")
	b.wantPut(0, whole[:5096], false, api.OK)
	b.wantDrained(whole[:5096])
	b = newBoth(t)
	b.wantPut(0, text(1<<20), true, api.ErrFlow)
	b.wantPut(0, whole[:4097], true, api.ErrFlow)
	b.wantPut(0, whole[:4096], true, api.OK)
	b.wantDrained(whole[:4096])
	b.wantState("all", 4096, 8192, 1)
}

// TestFlowFirst is promises 11.1 and 11.2: ErrFlow is named ahead of ErrFinal.
func TestFlowFirst(t *testing.T) {
	b := newBoth(t)
	b.wantPut(3, "x", true, api.OK)
	for _, fin := range []bool{false, true} {
		b.wantPut(4097, "", fin, api.ErrFlow)
		b.wantPut(4096, "x", fin, api.ErrFlow)
		b.wantPut(4096, "", fin, api.ErrFinal)
		b.wantPut(4095, "x", fin, api.ErrFinal)
		b.wantPut(0, text(4097), fin, api.ErrFlow)
	}
	b.wantReset(4097, api.ErrFlow)
	b.wantReset(4096, api.ErrFinal)
	b.wantReset(4, api.OK)
	b.wantPut(4097, "", true, api.ErrFlow)
	b.wantReset(4097, api.ErrFlow)
	b.wantReset(4096, api.ErrFinal)
}

// TestKnownSize is promise 11.1 of a known size: pieces without the end that end ahead of it, at it and behind it, and with the end at it, one less and one more.
func TestKnownSize(t *testing.T) {
	for _, read := range []int{0, 1, 3, 5} {
		for _, data := range []string{"", "x", "xy", "xyz"} {
			for end := int64(len(data)); end < 12; end++ {
				for _, fin := range []bool{false, true} {
					b := newBoth(t)
					b.put(0, "abcde", false)
					b.read(read)
					b.wantPut(7, "h", true, api.OK)
					b.wantState("known", int64(read), int64(read)+buffer, 0)
					wrong := end > 8 || fin && end != 8
					b.wantPut(end-int64(len(data)), data, fin, errIf(wrong, api.ErrFinal))
					b.wantState("put", int64(read), int64(read)+buffer, 0)
					b.wantPut(5, "fg", false, api.OK)
					want := []byte("abcdefgh")
					for i := range len(data) {
						if at := int(end) - len(data) + i; !wrong && (at == 5 || at == 6) {
							want[at] = data[i]
						}
					}
					b.wantDrained(string(want))
					b.wantState("all", 8, 8+buffer, 1)
				}
			}
		}
	}
}

// TestSizeStays is promise 11.1: a known size stays the one it is, also when all was read.
func TestSizeStays(t *testing.T) {
	for _, size := range []int64{0, 1, 2, 100, 4095, 4096} {
		b := newBoth(t)
		b.wantPut(0, text(int(size)), true, api.OK)
		for range 2 {
			for _, off := range []int64{size - 1, size, size + 1} {
				if off < 0 || off > 4096 {
					continue
				}
				b.wantPut(off, "", true, errIf(off != size, api.ErrFinal))
				b.wantPut(off, "", false, errIf(off > size, api.ErrFinal))
			}
			if size < 4096 {
				b.wantPut(size, "x", false, api.ErrFinal)
				b.wantPut(size, "x", true, api.ErrFinal)
			}
			b.wantPut(0, text(int(size)), true, api.OK)
			b.wantPut(0, text(int(size)), false, api.OK)
			b.wantDrained(text(int(size)))
			b.wantState("all", size, size+buffer, 1)
		}
	}
}

// TestEndAndBytes is promise 11.1 of a piece with the end ahead of a byte that came already, at it and behind it, also where those bytes were read.
func TestEndAndBytes(t *testing.T) {
	for _, read := range []int{0, 1, 5, 9, 10} {
		for _, data := range []string{"", "x", "xyz"} {
			for end := int64(len(data)); end < 14; end++ {
				b := newBoth(t)
				b.put(0, text(10), false) // the last one stands at 9
				b.read(read)
				b.wantPut(end-int64(len(data)), data, true, errIf(end <= 9, api.ErrFinal))
				how := 0
				if end == 10 && read == 10 {
					how = 1
				}
				b.wantState("end", int64(read), int64(read)+buffer, how)
				if end <= 9 { // no size is known
					b.wantPut(10, "more", false, api.OK)
					b.wantDrained(text(10) + "more")
				}
			}
		}
	}
	b := newBoth(t)
	b.put(20, "x", false) // a byte behind a gap came as well
	for end := range int64(21) {
		b.wantPut(end, "", true, api.ErrFinal)
		b.wantPut(0, text(int(end)), true, api.ErrFinal)
	}
	b.wantRead(9, "")
	b.wantPut(21, "", true, api.OK)
	b.wantPut(21, "", true, api.OK)
	b.wantPut(22, "", true, api.ErrFinal)
}

// TestEndWithoutBytes is promise 11.1 of an end with no bytes: ahead of everything, behind all that came, behind a gap and at the limit.
func TestEndWithoutBytes(t *testing.T) {
	b := newBoth(t)
	b.wantPut(0, "", true, api.OK)
	b.wantState("no bytes at all", 0, 4096, 1)
	b.wantRead(9, "")
	b.wantPut(0, "x", false, api.ErrFinal)
	b.wantPut(0, "", false, api.OK)

	b = newBoth(t)
	b.wantPut(0, "ab", false, api.OK)
	b.wantPut(2, "", true, api.OK)
	b.wantState("not read", 0, 4096, 0)
	b.wantRead(1, "a")
	b.wantState("one is left", 1, 4097, 0)
	b.wantRead(1, "b")
	b.wantState("none is left", 2, 4098, 1)

	b = newBoth(t)
	b.wantPut(0, "ab", false, api.OK)
	b.wantRead(2, "ab")
	b.wantState("it may go on", 2, 4098, 0)
	b.wantPut(2, "", true, api.OK)
	b.wantState("it was read already", 2, 4098, 1)

	for _, end := range []int64{5, 4095, 4096} {
		b = newBoth(t)
		b.wantPut(end, "", true, api.OK)
		b.wantState("all is a gap", 0, 4096, 0)
		b.wantRead(9, "")
		b.wantPut(end, "", false, api.OK)
		b.wantPut(0, text(int(end)), false, api.OK)
		b.wantDrained(text(int(end)))
		b.wantState("all", end, end+buffer, 1)
	}
}

// TestNoBytes is promises 11.1 and 11.2: where a piece without bytes lies, no byte came.
func TestNoBytes(t *testing.T) {
	for _, off := range []int64{0, 1, 10, 4096} {
		b := newBoth(t)
		b.wantPut(off, "", false, api.OK)
		b.wantState("no bytes", 0, 4096, 0)
		b.wantRead(9, "")
		b.wantPut(0, "", true, api.OK)
		b.wantState("no bytes", 0, 4096, 1)
		b = newBoth(t)
		b.wantPut(off, "", false, api.OK)
		b.wantReset(0, api.OK)
		b.wantState("no bytes", 0, 4096, 2)
	}
	b := newBoth(t)
	b.wantPut(3, "d", false, api.OK)
	b.wantPut(9, "", false, api.OK)
	b.wantPut(2, "", false, api.OK)
	b.wantPut(3, "", true, api.ErrFinal)
	b.wantPut(4, "", true, api.OK)
}

// TestFirstStays is promise 11.1: what came first stays, and what was read is no longer of interest.
func TestFirstStays(t *testing.T) {
	b := newBoth(t)
	b.wantPut(2, "cd", false, api.OK)
	b.wantPut(1, "1234", false, api.OK)
	b.wantPut(0, "xxxxxx", false, api.OK)
	b.wantRead(3, "x1c")
	b.wantPut(0, "yyyyyyyy", false, api.OK) // over bytes that were read, that came and that did not
	b.wantRead(9, "d4xyy")
	b.wantPut(0, "zzzzzzzz", false, api.OK)
	b.wantPut(7, "z", false, api.OK)
	b.wantRead(9, "")
	b.wantState("read", 8, 8+buffer, 0)
	b.wantPut(7, "zi", true, api.OK)
	b.wantPut(8, "k", true, api.OK)
	b.wantDrained("x1cd4xyyi")
	b.wantState("all", 9, 9+buffer, 1)
}

// TestOverlaps is promise 11.1 of each piece over a stream of which some came, some were read and some lie behind a gap.
func TestOverlaps(t *testing.T) {
	const there, piece = "ABCDE  HI    ", "abcdefghijklm"
	for off := range len(piece) + 1 {
		for end := off; end <= len(piece); end++ {
			for read := range 6 {
				b := newBoth(t)
				b.put(0, "ABCDE", false)
				b.put(7, "HI", false)
				b.read(read)
				b.wantPut(int64(off), piece[off:end], false, api.OK)
				b.wantPut(0, ".............", false, api.OK)
				want := []byte(there)
				for at := range want {
					if want[at] == ' ' && at >= off && at < end {
						want[at] = piece[at]
					} else if want[at] == ' ' {
						want[at] = '.'
					}
				}
				b.wantDrained(string(want))
			}
		}
	}
}

// TestRefusedPut is R2: a Put that is refused changes nothing: no byte, no size.
func TestRefusedPut(t *testing.T) {
	b := newBoth(t)
	b.wantPut(0, text(4097), true, api.ErrFlow)
	b.wantPut(4090, text(7), true, api.ErrFlow)
	b.wantPut(-1, text(7), true, api.ErrRange)
	b.wantPut(1<<62, text(7), true, api.ErrRange)
	b.wantState("refused", 0, 4096, 0)
	b.wantRead(9, "")
	b.wantPut(5, "f", false, api.OK)
	b.wantPut(0, "xxxx", true, api.ErrFinal)
	b.wantPut(2, "yyy", true, api.ErrFinal)
	b.wantRead(9, "")
	b.wantPut(0, "abcde", false, api.OK)
	b.wantPut(6, "", true, api.OK)
	b.wantPut(2, "yyyyy", false, api.ErrFinal)
	b.wantPut(6, "y", true, api.ErrFinal)
	b.wantPut(0, "zzzzz", true, api.ErrFinal)
	b.wantDrained("abcdef")
	b.wantState("all", 6, 6+buffer, 1)

	b = newBoth(t)
	b.wantPut(0, "abc", false, api.OK)
	b.wantPut(6, "g", true, api.OK)
	b.wantPut(3, "xxxxx", false, api.ErrFinal) // its first bytes would have fitted
	b.wantRead(9, "abc")
	b.wantPut(3, "def", false, api.OK)
	b.wantDrained("abcdefg")
}

// TestRefusedReset is R2: a Reset that is refused changes nothing: it can be read on, and no size is known.
func TestRefusedReset(t *testing.T) {
	b := newBoth(t)
	b.wantPut(0, "abc", false, api.OK)
	for _, size := range wrongPlaces {
		b.wantReset(size, api.ErrRange)
	}
	b.wantReset(4097, api.ErrFlow)
	b.wantReset(greatest, api.ErrFlow)
	b.wantReset(2, api.ErrFinal)
	b.wantReset(0, api.ErrFinal)
	b.wantState("refused", 0, 4096, 0)
	b.wantRead(2, "ab")
	b.wantReset(2, api.ErrFinal)
	b.wantPut(3, "def", true, api.OK)
	b.wantReset(5, api.ErrFinal)
	b.wantReset(7, api.ErrFinal)
	b.wantDrained("abcdef")
	b.wantState("all", 6, 6+buffer, 1)
}

// TestResetRange is promise 11.2 of sizes at the ends of what is right, in every state.
func TestResetRange(t *testing.T) {
	for name, fresh := range states(t) {
		b := fresh()
		read, limit, how := b.b.State()
		for _, size := range wrongPlaces {
			b.wantReset(size, api.ErrRange)
		}
		for _, size := range []int64{limit + 1, limit + 2, 1 << 32, 1 << 61, greatest - 1, greatest} {
			b.wantReset(size, api.ErrFlow)
		}
		b.wantState(name, read, limit, how)
	}
}

// TestResetFlow is promise 11.2 of sizes one ahead of the limit, at it and above it, before anything was read and after.
func TestResetFlow(t *testing.T) {
	for _, read := range []int{0, 1, 4096, 9000} {
		for _, size := range []int64{int64(read) + 4095, int64(read) + 4096, int64(read) + 4097} {
			b := readBox(t, read)
			b.wantReset(size, errIf(size > int64(read)+buffer, api.ErrFlow))
			how := 2
			if size > int64(read)+buffer {
				how = 0
			}
			b.wantState("reset", int64(read), int64(read)+buffer, how)
		}
	}
}

// TestResetKnown is promise 11.2 where the size is known: the same one resets, another one is ErrFinal.
func TestResetKnown(t *testing.T) {
	for _, read := range []int{0, 1, 3} {
		for size := range int64(9) {
			b := newBoth(t)
			b.put(0, "abc", false)
			b.put(4, "e", true)
			b.read(read)
			b.wantReset(size, errIf(size != 5, api.ErrFinal))
			if size == 5 {
				b.wantState("reset", int64(read), int64(read)+buffer, 2)
				b.wantRead(9, "")
			} else {
				b.wantState("not reset", int64(read), int64(read)+buffer, 0)
				b.wantRead(9, "abc"[read:])
			}
		}
	}
	b := newBoth(t)
	b.put(0, "abc", true) // all came, but it was not read
	b.wantReset(3, api.OK)
	b.wantState("reset", 0, 4096, 2)
	b.wantRead(9, "")
}

// TestResetBytes is promise 11.2 of a size ahead of a byte that came, at it and behind it, also where those bytes were read.
func TestResetBytes(t *testing.T) {
	for _, read := range []int{0, 1, 9, 10} {
		for size := range int64(14) {
			b := newBoth(t)
			b.put(0, text(10), false)
			b.read(read)
			b.wantReset(size, errIf(size <= 9, api.ErrFinal))
			how := 2
			if size <= 9 {
				how = 0
			}
			b.wantState("reset", int64(read), int64(read)+buffer, how)
		}
	}
	for size := range int64(30) {
		b := newBoth(t)
		b.put(20, "x", false)
		b.wantReset(size, errIf(size <= 20, api.ErrFinal))
	}
}

// TestResetTwice is promise 11.2 of a stream that was reset: the same size is OK, another one ErrFinal; it stays reset.
func TestResetTwice(t *testing.T) {
	for _, first := range []int64{0, 1, 7, 4095, 4096} {
		b := newBoth(t)
		b.wantReset(first, api.OK)
		b.wantState("reset", 0, 4096, 2)
		for _, size := range []int64{0, 1, 2, 6, 7, 8, 4095, 4096} {
			b.wantReset(size, errIf(size != first, api.ErrFinal))
			b.wantState("reset twice", 0, 4096, 2)
		}
		b.wantReset(first, api.OK)
	}
}

// TestResetAllRead is promise 11.2 of a stream all of which was read: OK for its size, and it ended as it did.
func TestResetAllRead(t *testing.T) {
	for _, size := range []int64{0, 1, 5, 4096} {
		b := newBoth(t)
		b.put(0, text(int(size)), true)
		b.read(math.MaxInt)
		b.wantState("all read", size, size+buffer, 1)
		for range 2 {
			b.wantReset(size, api.OK)
			b.wantState("as it was", size, size+buffer, 1)
			b.wantReset(size+1, api.ErrFinal)
			b.wantReset(size+buffer, api.ErrFinal)
			b.wantReset(size+buffer+1, api.ErrFlow)
			if size > 0 {
				b.wantReset(size-1, api.ErrFinal)
			}
			b.wantReset(-1, api.ErrRange)
			b.wantState("as it was", size, size+buffer, 1)
			b.wantPut(0, text(int(size)), true, api.OK)
		}
	}
}

// TestResetAtWhatWasRead is promise 11.2 of a stream whose size was not known, though all that came was read: it did not end, so it is reset.
func TestResetAtWhatWasRead(t *testing.T) {
	for _, read := range []int{0, 1, 5, 5000} {
		b := readBox(t, read)
		b.wantReset(int64(read), api.OK)
		b.wantState("reset", int64(read), int64(read)+buffer, 2)
		b.wantReset(int64(read), api.OK)
		b.wantState("reset", int64(read), int64(read)+buffer, 2)
	}
}

// TestPutAfterReset is promise 11.1 of a stream that was reset: errors are what they would be, all else is OK, and nothing changes.
func TestPutAfterReset(t *testing.T) {
	for _, came := range []string{"", "abc"} {
		for _, read := range []int{0, len(came)} {
			b := newBoth(t)
			b.put(0, came, false)
			b.read(read)
			b.wantReset(8, api.OK)
			for off := range int64(12) {
				for size := range int64(12) {
					end := off + size
					b.wantPut(off, text(int(size)), false, errIf(end > 8, api.ErrFinal))
					b.wantPut(off, text(int(size)), true, errIf(end != 8, api.ErrFinal))
					b.wantRead(9, "")
				}
			}
			for _, fin := range []bool{false, true} {
				b.wantPut(-1, "x", fin, api.ErrRange)
				b.wantPut(1<<62, "", fin, api.ErrRange)
				b.wantPut(int64(read)+4097, "", fin, api.ErrFlow)
				b.wantPut(int64(read)+4096, "x", fin, api.ErrFlow)
				b.wantPut(int64(read)+4096, "", fin, api.ErrFinal)
				b.wantPut(greatest, "x", fin, api.ErrFlow)
			}
			b.wantReset(8, api.OK)
			b.wantReset(9, api.ErrFinal)
			b.wantRead(math.MaxInt, "")
			b.wantState("reset", int64(read), int64(read)+buffer, 2)
		}
	}
}

// TestReadNumbers is promise 11.3: as many as came, one less, one more, none below 1, and the greatest number.
func TestReadNumbers(t *testing.T) {
	const came = 7
	for _, n := range []int{math.MinInt, math.MinInt32, -8, -1, 0, 1, 2, 6, 7, 8, 4096, math.MaxInt32, math.MaxInt} {
		for _, gap := range []bool{false, true} {
			for _, fin := range []bool{false, true} {
				b := newBoth(t)
				whole := text(came)
				b.put(0, whole, fin && !gap)
				if gap {
					b.put(9, "behind", fin)
				}
				took := max(0, min(n, came))
				b.wantRead(n, whole[:took])
				how := 0
				if fin && !gap && took == came {
					how = 1
				}
				b.wantState("read", int64(took), int64(took)+buffer, how)
				b.wantRead(came, whole[took:])
				b.wantRead(came, "")
				if gap {
					b.wantPut(came, "xy", false, api.OK)
					b.wantDrained(whole + "xybehind")
				}
			}
		}
	}
}

// TestReadOneByOne is promise 11.3: each byte is read once, and the limit goes up with each.
func TestReadOneByOne(t *testing.T) {
	b := newBoth(t)
	whole := text(4096)
	b.wantPut(0, whole, true, api.OK)
	for i := range 4096 {
		b.wantState("one by one", int64(i), int64(i)+buffer, 0)
		b.wantRead(1, whole[i:i+1])
		b.wantRead(0, "")
	}
	b.wantState("all", 4096, 8192, 1)
	b.wantRead(1, "")
	b.wantDrained(whole)
}

// TestReadAfterReset is promise 11.3: of a stream that was reset nothing is read, whatever came.
func TestReadAfterReset(t *testing.T) {
	for _, fin := range []bool{false, true} {
		b := newBoth(t)
		b.put(0, "abcdef", fin)
		b.wantRead(2, "ab")
		b.wantReset(6, api.OK)
		for _, n := range []int{math.MinInt, -1, 0, 1, 4, 9, math.MaxInt} {
			b.wantRead(n, "")
			b.wantState("reset", 2, 4098, 2)
		}
		b.wantPut(2, "cdef", true, api.OK)
		b.wantRead(9, "")
	}
}

// TestAllBytes is promises 11.1 and 11.3: each of the 256 bytes comes out as it went in.
func TestAllBytes(t *testing.T) {
	all := make([]byte, 256)
	for i := range all {
		all[i] = byte(i)
	}
	b := newBoth(t)
	for i := 255; i >= 0; i-- {
		b.wantPut(int64(i), string(all[i:i+1]), i == 255, api.OK)
	}
	b.wantDrained(string(all))
	b.wantState("all", 256, 256+buffer, 1)
}

// TestSameByteOften is promise 11.4 of the same byte, sent many times, before it is read and after.
func TestSameByteOften(t *testing.T) {
	b := newBoth(t)
	for range 3000 {
		b.wantPut(1, "b", false, api.OK)
	}
	b.wantRead(9, "")
	for range 3000 {
		b.wantPut(0, "a", false, api.OK)
	}
	b.wantRead(1, "a")
	for range 3000 {
		b.wantPut(0, "a", false, api.OK)
		b.wantPut(1, "b", true, api.OK)
	}
	b.wantDrained("ab")
	for range 3000 {
		b.wantPut(0, "a", false, api.OK)
		b.wantPut(1, "b", true, api.OK)
		b.wantRead(9, "")
	}
	b.wantState("all", 2, 2+buffer, 1)
}

// orders calls something with every order of the numbers below n.
func orders(n int, with func(order []int)) {
	var rest func(order []int)
	rest = func(order []int) {
		if len(order) == n {
			with(order)
			return
		}
	next:
		for i := range n {
			for _, j := range order {
				if i == j {
					continue next
				}
			}
			rest(append(order[:len(order):len(order)], i))
		}
	}
	rest(nil)
}

// TestEveryOrder is promise 11.4 of pieces, some of which overlap, in every order, read at the end and in between.
func TestEveryOrder(t *testing.T) {
	const whole = "abcdefghij"
	pieces := []struct {
		from, to int
		fin      bool
	}{{0, 3, false}, {2, 6, false}, {6, 7, false}, {5, 9, false}, {9, 10, true}, {10, 10, true}}
	for _, most := range []int{0, 1, 3, 99} {
		orders(len(pieces), func(order []int) {
			b := newBoth(t)
			for _, i := range order {
				p := pieces[i]
				b.wantPut(int64(p.from), whole[p.from:p.to], p.fin, api.OK)
				b.read(most)
				if s := b.all.String(); !strings.HasPrefix(whole, s) {
					t.Fatalf("%q was read", s)
				}
			}
			b.wantDrained(whole)
			b.wantState("all", 10, 10+buffer, 1)
		})
	}
}

// TestLongStream is promise 11.4 of a stream much longer than what may wait, in pieces by chance that come often and in any order.
func TestLongStream(t *testing.T) {
	r := rand.New(rand.NewSource(1))
	for _, size := range []int{1, 4096, 4097, 60000} {
		whole := text(size)
		box := inbox.New()
		var got strings.Builder
		for steps := 0; ; steps++ {
			if steps > 100000 {
				t.Fatalf("%d of %d bytes were read", got.Len(), size)
			}
			read, limit, how := box.State()
			if how == 1 {
				break
			}
			low := max(0, int(read)-r.Intn(300))
			off := min(size, low+r.Intn(5000))
			if r.Intn(3) == 0 {
				off = low
			}
			end := min(size, int(limit), off+r.Intn(1400))
			if end >= off {
				if e := box.Put(int64(off), whole[off:end], end == size); e != api.OK {
					t.Fatalf("Put(%d to %d) is %d", off, end, e)
				}
			}
			got.WriteString(box.Read(r.Intn(1500)))
			if !strings.HasPrefix(whole, got.String()) {
				t.Fatalf("what was read is no beginning, at %d", got.Len())
			}
		}
		if got.String() != whole {
			t.Fatalf("%d of %d bytes were read", got.Len(), size)
		}
	}
}

// TestBeginning is promise 11.4: whichever pieces of a stream came, what is read is as long as the bytes that came without a gap.
func TestBeginning(t *testing.T) {
	r := rand.New(rand.NewSource(2))
	for range 3000 {
		size := 1 + r.Intn(40)
		whole := text(size)
		b, came := newBoth(t), make([]bool, size+1)
		for range r.Intn(30) {
			off := r.Intn(size + 1)
			end := off + r.Intn(min(8, size+1-off))
			b.wantPut(int64(off), whole[off:end], end == size && r.Intn(2) == 0, api.OK)
			for at := off; at < end; at++ {
				came[at] = true
			}
			if r.Intn(3) == 0 {
				b.read(r.Intn(6))
			}
		}
		n := 0
		for came[n] {
			n++
		}
		b.wantDrained(whole[:n])
	}
}

// TestBeside is promise 11.1: what came to one box did not come to another.
func TestBeside(t *testing.T) {
	a, b := newBoth(t), newBoth(t)
	a.wantPut(0, "abc", true, api.OK)
	b.same("the other one was put to")
	b.wantRead(9, "")
	b.wantPut(0, "xy", false, api.OK)
	b.wantRead(1, "x")
	a.same("the other one was read")
	b.wantReset(2, api.OK)
	a.wantDrained("abc")
	a.wantState("all", 3, 3+buffer, 1)
	newBoth(t).wantRead(9, "")
}

// act is one of some small steps.
type act struct {
	kind int // 0: put, 1: put with the end, 2: reset, 3: read
	off  int
	data string
}

func (b *both) do(a act) {
	b.t.Helper()
	switch a.kind {
	case 0, 1:
		b.put(int64(a.off), a.data, a.kind == 1)
	case 2:
		b.reset(int64(a.off))
	case 3:
		b.read(a.off)
	}
}

// TestSmallRows is promises 11.1 to 11.3 of every row of four small steps, held against the plain stream.
func TestSmallRows(t *testing.T) {
	var acts []act
	for kind := range 2 {
		for off := range 3 {
			for _, data := range []string{"", "a", "bc"} {
				acts = append(acts, act{kind, off, data})
			}
		}
	}
	for off := range 4 {
		acts = append(acts, act{2, off, ""})
	}
	acts = append(acts, act{3, 1, ""}, act{3, 9, ""})
	n := len(acts)
	for row := range n * n * n * n {
		b := newBoth(t)
		for ; row > 0; row /= n {
			b.do(acts[row%n])
		}
		b.read(9)
	}
}

// step does with both streams something by chance, mostly near what is being read or near the limit.
func (b *both) step(r *rand.Rand) {
	b.t.Helper()
	at := b.p.read + int64(r.Intn(40)) - 10
	switch r.Intn(8) {
	case 0:
		at = b.p.limit() + int64(r.Intn(20)) - 16
	case 1:
		at = int64(len(b.p.bytes)) + int64(r.Intn(5)) - 2
	}
	if b.p.known && r.Intn(4) == 0 {
		at = b.p.size + int64(r.Intn(3)) - 1
	}
	data := make([]byte, r.Intn(12))
	if r.Intn(12) == 0 {
		data = make([]byte, r.Intn(4200))
	}
	for i := range data {
		data[i] = byte(r.Intn(256))
	}
	switch kind := r.Intn(200); {
	case kind < 120:
		b.put(at, string(data), false)
	case kind < 124:
		b.put(at, string(data), true)
	case kind < 125:
		b.reset(at)
	case kind < 127:
		b.put(wrongPlaces[r.Intn(len(wrongPlaces))], string(data), r.Intn(2) == 0)
	case kind < 128:
		b.reset(wrongPlaces[r.Intn(len(wrongPlaces))])
	case kind < 140:
		b.put(b.p.read, string(data), false)
	default:
		b.read(r.Intn(30) - 2)
	}
}

// TestRandomRows is promises 11.1 to 11.4 of rows of steps, held against the plain stream, bytes that disagree among them.
func TestRandomRows(t *testing.T) {
	r := rand.New(rand.NewSource(11))
	for range 1000 {
		b := newBoth(t)
		for range 200 {
			b.step(r)
		}
		b.read(math.MaxInt)
	}
}

// FuzzSteps holds a row of steps, written as bytes, against the plain stream.
func FuzzSteps(f *testing.F) {
	f.Add([]byte("\x00\x02\x02\x03\x09\x00\x00\x00\x03\x03\x09\x00\x01\x09\x01\x00\x0b\x01"))
	f.Add([]byte("\x06\x00\x10\x06\x00\x00\x03\xff\xff\x07\x05\x03\x02\x20\x00\x04\x10\x00"))
	f.Add([]byte("\x00\x00\x09\x03\x04\x00\x02\x09\x00\x00\x04\x04\x01\x04\x05\x02\x09\x00"))
	f.Fuzz(func(t *testing.T, row []byte) {
		b := newBoth(t)
		for i := 0; len(row) >= 3 && i < 300; i, row = i+1, row[3:] {
			x, y := int64(row[1]), int(row[2])
			data := text(y + i)[i:]
			switch row[0] % 9 {
			case 0:
				b.put(x, data, false)
			case 1:
				b.put(x, data, true)
			case 2:
				b.reset(x)
			case 3:
				b.read(int(x)*y - 1)
			case 4:
				b.put(b.p.read+x-128, data, y%16 == 0)
			case 5:
				b.put(b.p.limit()-x, data, y%16 == 0)
			case 6:
				b.put(b.p.read, text(16*y), y%16 == 15)
			case 7:
				b.put(x<<(y%64), data, y%2 == 0)
			case 8:
				b.reset(b.p.limit() + x - 250)
			}
		}
		b.read(math.MaxInt)
	})
}
