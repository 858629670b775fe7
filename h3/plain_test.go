package h3_test

import (
	"encoding/binary"
	"regexp"
	"slices"
	"strings"
	"testing"

	"vizard/api"
	"vizard/h3"
)

const greatest = int64(1<<62 - 1)

// The codes, as the document's words have them.
const (
	unexpected = 0x105
	wrongFrame = 0x106
	wrongPairs = 0x109
	missing    = 0x10a
	noMessage  = 0x10e
)

// strangeKinds are those of frames that are passed over.
var strangeKinds = []int64{2, 3, 5, 6, 8, 9, 0x0d, 0x21, 62, 63, 64, 65, 1<<14 - 1, 1 << 14, 1<<30 - 1, 1 << 30, 1<<31 - 1, 1 << 31, 1 << 32, 1<<32 + 1, 1<<32 + 4, 1<<32 + 7, 1<<61 + 1, greatest - 1, greatest}

// letters are the kinds that are known, each with a letter, so that a row of frames is a text.
var letters = map[int64]string{0: "D", 1: "H", 4: "S", 7: "G"}

// rows are what may stand on a stream, by whether it is a control one.
var rows = map[bool]*regexp.Regexp{
	false: regexp.MustCompile(`\A(HD*)?\z`),
	true:  regexp.MustCompile(`\A(SG*)?\z`),
}

// wide is a number in that many bytes.
func wide(n int64, size int) string {
	var b []byte
	switch size {
	case 1:
		b = []byte{byte(n)}
	case 2:
		b = binary.BigEndian.AppendUint16(nil, uint16(n)|1<<14)
	case 4:
		b = binary.BigEndian.AppendUint32(nil, uint32(n)|2<<30)
	case 8:
		b = binary.BigEndian.AppendUint64(nil, uint64(n)|3<<62)
	}
	return string(b)
}

// room are the sizes in which a number can be written, the least first.
func room(n int64) []int {
	switch {
	case n < 1<<6:
		return []int{1, 2, 4, 8}
	case n < 1<<14:
		return []int{2, 4, 8}
	case n < 1<<30:
		return []int{4, 8}
	}
	return []int{8}
}

// put is a number in the fewest bytes.
func put(n int64) string {
	return wide(n, room(n)[0])
}

// head is a frame's kind and count.
func head(kind, count int64) string {
	return put(kind) + put(count)
}

// frame is a frame's bytes.
func frame(kind int64, data string) string {
	return head(kind, int64(len(data))) + data
}

// number is the number at a place, and where it ends; false: the bytes end within it.
func number(s string, at int) (int64, int, bool) {
	if at >= len(s) {
		return 0, 0, false
	}
	size := 1 << (s[at] / 64)
	if at+size > len(s) {
		return 0, 0, false
	}
	b := make([]byte, 8)
	copy(b[8-size:], s[at:at+size])
	b[8-size] %= 64
	return int64(binary.BigEndian.Uint64(b)), at + size, true
}

// paired is what Pairs must answer.
func paired(s string) ([]api.Range, api.Errno) {
	var l []api.Range
	seen := map[int64]bool{}
	for at := 0; at < len(s); {
		low, middle, ok := number(s, at)
		if !ok {
			return nil, api.ErrShort
		}
		high, end, ok := number(s, middle)
		if !ok {
			return nil, api.ErrShort
		}
		if low == 2 || low == 3 || low == 4 || low == 5 {
			return nil, api.ErrKind
		}
		if seen[low] {
			return nil, api.ErrField
		}
		seen[low] = true
		l = append(l, api.Range{Low: low, High: high})
		if len(l) == 17 {
			return nil, api.ErrLong
		}
		at = end
	}
	return l, api.OK
}

// told is an event, and which bytes of the stream it tells of: it comes with the last of them. Of a frame of Data they are those of its data, and come by and by.
type told struct {
	event    h3.Event
	from, to int
}

// tale is what must be told of all that was fed to a reader.
type tale struct {
	events []told
	code   int64
	faulty int // how many bytes it takes to tell the code
	end    int64
}

func (t *tale) fail(code int64, at int) tale {
	t.code, t.end, t.faulty = code, code, at
	return *t
}

// tell reads a stream from its first byte on.
func tell(control bool, s string) tale {
	t := tale{end: wrongFrame}
	at := 0
	if control {
		if s == "" {
			return t
		}
		if s[0] != 0 {
			return t.fail(unexpected, 1)
		}
		at = 1
	}
	row := ""
	for at < len(s) {
		kind, middle, ok := number(s, at)
		if !ok {
			return t
		}
		count, body, ok := number(s, middle)
		if !ok {
			return t
		}
		row += letters[kind]
		if code := badHead(control, row, kind, count); code != 0 {
			return t.fail(code, body)
		}
		all := count <= int64(len(s)-body)
		at = len(s)
		if all {
			at = body + int(count)
		}
		data := s[body:at]
		if kind == 0 {
			t.events = append(t.events, told{h3.Event{Kind: kind, Data: data}, body, at})
		}
		if !all {
			return t
		}
		if code := badData(kind, data); code != 0 {
			return t.fail(code, at)
		}
		if kind != 0 && letters[kind] != "" {
			t.events = append(t.events, told{h3.Event{Kind: kind, Data: data}, body, at})
		}
	}
	t.end = 0
	if !control && row == "" {
		t.end = noMessage
	}
	return t
}

// badHead is what a frame's kind and count say.
func badHead(control bool, row string, kind, count int64) int64 {
	switch {
	case control && row == "G":
		return missing
	case !rows[control].MatchString(row):
		return unexpected
	case strings.Contains("HSG", letters[kind]) && letters[kind] != "" && count > 4096:
		return wrongFrame
	}
	return 0
}

// badData is what a frame's data says.
func badData(kind int64, data string) int64 {
	switch kind {
	case 7:
		if _, end, ok := number(data, 0); !ok || end != len(data) {
			return wrongFrame
		}
	case 4:
		if _, e := paired(data); e != api.OK {
			return wrongPairs
		}
	}
	return 0
}

// between is what one Feed must answer, that brings a stream from so many bytes to so many.
func (t tale) between(s string, from, to int) (l []h3.Event, code int64) {
	if t.code != 0 && t.faulty <= to {
		code = t.code
	}
	for _, one := range t.events {
		if one.event.Kind == 0 {
			first, last := max(one.from, from), min(one.to, to)
			if first < last {
				l = append(l, h3.Event{Kind: 0, Data: s[first:last]})
			}
		} else if one.to > from && one.to <= to {
			l = append(l, one.event)
		}
	}
	return l, code
}

// joined is events with those of Data put together that stand one behind the other.
func joined(l []h3.Event) (out []h3.Event) {
	for _, e := range l {
		if n := len(out); e.Kind == 0 && n > 0 && out[n-1].Kind == 0 {
			out[n-1].Data += e.Data
		} else {
			out = append(out, e)
		}
	}
	return out
}

// short is the beginning of bytes, for they may be many.
func short(s string) string {
	return s[:min(len(s), 40)]
}

// shorter is events with the beginning of their data.
func shorter(l []h3.Event) (out []h3.Event) {
	for _, e := range l[:min(len(l), 20)] {
		out = append(out, h3.Event{Kind: e.Kind, Data: short(e.Data)})
	}
	return out
}

// wantPieces feeds a stream in pieces: each Feed, and End ahead of it and behind it, must answer what the test's own reader says.
func wantPieces(t *testing.T, name string, control bool, pieces ...string) {
	t.Helper()
	s := strings.Join(pieces, "")
	whole := tell(control, s)
	r := h3.New(control)
	var all []h3.Event
	from := 0
	for i, piece := range pieces {
		if code, want := r.End(), tell(control, s[:from]).end; code != want {
			t.Fatalf("%s: behind %d bytes of %x End is %x, want %x", name, from, short(s), code, want)
		}
		to := from + len(piece)
		list, want := whole.between(s, from, to)
		l, code := r.Feed(piece)
		if !slices.Equal(l, list) || code != want {
			t.Fatalf("%s: Feed %d, of the bytes from %d to %d of %x, is %x, %x; want %x, %x", name, i, from, to, short(s), shorter(l), code, shorter(list), want)
		}
		all = append(all, l...)
		from = to
	}
	if code := r.End(); code != whole.end {
		t.Fatalf("%s: behind %x End is %x, want %x", name, short(s), code, whole.end)
	}
	if once, code := h3.New(control).Feed(s); code != whole.code || !slices.Equal(joined(once), joined(all)) {
		t.Fatalf("%s: %x at once is %x, %x; want %x, %x", name, short(s), shorter(once), code, shorter(all), whole.code)
	}
}

// bytesOf is a text cut into its bytes.
func bytesOf(s string) (l []string) {
	for i := range len(s) {
		l = append(l, s[i:i+1])
	}
	return l
}

// wantCuts feeds a stream at once, byte by byte, and cut in two at every byte.
func wantCuts(t *testing.T, name string, control bool, s string) {
	t.Helper()
	wantPieces(t, name, control, s)
	wantPieces(t, name+", byte by byte", control, bytesOf(s)...)
	for at := range len(s) + 1 {
		wantPieces(t, name+", cut", control, s[:at], s[at:])
	}
}

// wantStream is what a stream must answer, at once and in pieces: its events, with those of Data one behind the other put together, its code, and what End answers.
func wantStream(t *testing.T, name string, control bool, s string, code, end int64, events ...h3.Event) {
	t.Helper()
	whole := tell(control, s)
	l, _ := whole.between(s, 0, len(s))
	if !slices.Equal(joined(l), events) || whole.code != code || whole.end != end {
		t.Fatalf("%s: the test says of %x both %x, %x, %x, and %x, %x, %x", name, short(s), shorter(events), code, end, shorter(l), whole.code, whole.end)
	}
	r := h3.New(control)
	if l, got := r.Feed(s); !slices.Equal(joined(l), events) || got != code {
		t.Errorf("%s: Feed of %d bytes %x is %x, %x; want %x, %x", name, len(s), short(s), shorter(l), got, shorter(events), code)
	}
	if got := r.End(); got != end {
		t.Errorf("%s: End behind %d bytes %x is %x, want %x", name, len(s), short(s), got, end)
	}
	if len(s) < 200 {
		wantCuts(t, name, control, s)
	} else {
		wantPieces(t, name+", byte by byte", control, bytesOf(s)...)
	}
}

// wantFault is that a stream has a fault, and which events stand ahead of it.
func wantFault(t *testing.T, name string, control bool, s string, code int64, events ...h3.Event) {
	t.Helper()
	wantStream(t, name, control, s, code, code, events...)
}

func data(s string) h3.Event     { return h3.Event{Kind: 0, Data: s} }
func headers(s string) h3.Event  { return h3.Event{Kind: 1, Data: s} }
func settings(s string) h3.Event { return h3.Event{Kind: 4, Data: s} }
func goaway(s string) h3.Event   { return h3.Event{Kind: 7, Data: s} }
