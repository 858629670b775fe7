package frames_test

import (
	"encoding/binary"
	"math"
	"math/rand"
	"slices"
	"strings"
	"testing"

	"vizard/api"
	"vizard/frames"
)

const greatest = int64(1<<62 - 1)

// kinds are all that there are.
var kinds = []int{0x00, 0x01, 0x02, 0x04, 0x08, 0x11, 0x1c, 0x30}

// wrongNumbers are those that no frame has.
var wrongNumbers = []int64{math.MinInt64, math.MinInt64 + 1, -1 << 62, -1 << 32, -2, -1, greatest + 1, greatest + 2, math.MaxInt64 - 1, math.MaxInt64}

// rightNumbers are at the ends of the sizes in which numbers are written.
var rightNumbers = []int64{0, 1, 2, 63, 64, 1<<14 - 1, 1 << 14, 1<<30 - 1, 1 << 30, 1<<31 - 1, 1 << 31, 1<<32 - 1, 1 << 32, greatest - 1, greatest}

// wrongRanges are not empty, and not right.
var wrongRanges = [][]api.Range{
	{{Low: 1, High: 0}},
	{{Low: greatest, High: 0}},
	{{Low: -1, High: 0}},
	{{Low: -1, High: -1}},
	{{Low: 0, High: greatest + 1}},
	{{Low: greatest + 1, High: greatest + 1}},
	{{Low: math.MinInt64, High: math.MaxInt64}},
	{{Low: math.MaxInt64, High: math.MinInt64}},
	{{Low: 5, High: 8}, {Low: 4, High: 4}},
	{{Low: 5, High: 8}, {Low: 5, High: 8}},
	{{Low: 5, High: 8}, {Low: 10, High: 12}},
	{{Low: 5, High: 8}, {Low: -1, High: 3}},
	{{Low: 5, High: 8}, {Low: 2, High: 1}},
	{{Low: 0, High: 8}, {Low: -9, High: -2}},
	falling(17),
	falling(18),
	falling(1000),
}

// falling is that many ranges that would be right, were there not too many.
func falling(count int) []api.Range {
	l := make([]api.Range, count)
	for i := range l {
		n := 3 * int64(count-i)
		l[i] = api.Range{Low: n, High: n + 1}
	}
	return l
}

// has is whether the chapter's table gives a kind a field.
func has(kind int, field string) bool {
	fields := map[int][]string{
		0x02: {"Ranges"},
		0x04: {"Id", "Code", "Off"},
		0x08: {"Id", "Off", "Fin", "Data"},
		0x11: {"Id", "Off"},
		0x1c: {"Code"},
		0x30: {"Data"},
	}
	return slices.Contains(fields[kind], field)
}

// fault is what Check must answer.
func fault(f api.Frame) api.Errno {
	if !slices.Contains(kinds, f.Kind) {
		return api.ErrKind
	}
	for field, zero := range map[string]bool{
		"Id": f.Id == 0, "Off": f.Off == 0, "Fin": !f.Fin, "Code": f.Code == 0, "Data": f.Data == "", "Ranges": len(f.Ranges) == 0,
	} {
		if !zero && !has(f.Kind, field) {
			return api.ErrField
		}
	}
	for _, n := range []int64{f.Id, f.Off, f.Code} {
		if n < 0 || n > greatest {
			return api.ErrRange
		}
	}
	if f.Kind == 0x08 && f.Off+int64(len(f.Data)) > greatest {
		return api.ErrRange
	}
	if len(f.Data) > 1200 {
		return api.ErrLong
	}
	if f.Kind == 0x02 && !rightRanges(f.Ranges) {
		return api.ErrField
	}
	return api.OK
}

// rightRanges is whether there are some, and they are right, as chapter 8 says.
func rightRanges(l []api.Range) bool {
	for i, r := range l {
		if r.Low < 0 || r.High > greatest || r.Low > r.High {
			return false
		}
		if i > 0 && l[i-1].Low-r.High < 2 {
			return false
		}
	}
	return len(l) > 0 && len(l) <= 16
}

// wide is a number in that many bytes.
func wide(n int64, size int) string {
	var b []byte
	switch size {
	case 1:
		b = []byte{byte(n)}
	case 2:
		b = binary.BigEndian.AppendUint16(nil, uint16(n)|1<<14)
	case 4:
		b = binary.BigEndian.AppendUint32(nil, uint32(n)|2<<30)
	case 8:
		b = binary.BigEndian.AppendUint64(nil, uint64(n)|3<<62)
	}
	return string(b)
}

// room are the sizes in which a number can be written, the least first.
func room(n int64) []int {
	switch {
	case n < 1<<6:
		return []int{1, 2, 4, 8}
	case n < 1<<14:
		return []int{2, 4, 8}
	case n < 1<<30:
		return []int{4, 8}
	}
	return []int{8}
}

// number is a number in the fewest bytes.
func number(n int64) string {
	return wide(n, room(n)[0])
}

// layout is a right frame as the chapter's table says, its numbers written by put.
func layout(f api.Frame, put func(n int64) string) string {
	s := put(int64(f.Kind))
	switch f.Kind {
	case 0x02:
		s += put(int64(len(f.Ranges)))
		for _, r := range f.Ranges {
			s += put(r.High) + put(r.Low)
		}
	case 0x04:
		s += put(f.Id) + put(f.Code) + put(f.Off)
	case 0x08:
		s += put(f.Id) + put(f.Off)
		if f.Fin {
			s += "\x01"
		} else {
			s += "\x00"
		}
		s += put(int64(len(f.Data))) + f.Data
	case 0x11:
		s += put(f.Id) + put(f.Off)
	case 0x1c:
		s += put(f.Code)
	case 0x30:
		s += put(int64(len(f.Data))) + f.Data
	}
	return s
}

// cursor reads what layout writes. Its first fault stays, and nothing is read behind it.
type cursor struct {
	s  string
	at int
	e  api.Errno
}

func (c *cursor) fail(e api.Errno) {
	if c.e == api.OK {
		c.e = e
	}
}

func (c *cursor) bytes(count int64) string {
	if c.e == api.OK && count > int64(len(c.s)-c.at) {
		c.fail(api.ErrShort)
	}
	if c.e != api.OK {
		return ""
	}
	from := c.at
	c.at += int(count)
	return c.s[from:c.at]
}

func (c *cursor) number() int64 {
	first := c.bytes(1)
	if c.e != api.OK {
		return 0
	}
	more := c.bytes(1<<(first[0]>>6) - 1)
	n := int64(first[0] & 0x3f)
	for _, b := range []byte(more) {
		n = n*256 + int64(b)
	}
	return n
}

func (c *cursor) fin() bool {
	b := c.bytes(1)
	if b != "\x00" && b != "\x01" {
		c.fail(api.ErrField)
	}
	return b == "\x01"
}

func (c *cursor) ranges() (l []api.Range) {
	count := c.number()
	if count < 1 || count > 16 {
		c.fail(api.ErrField)
	}
	for i := int64(0); i < count && c.e == api.OK; i++ {
		high := c.number()
		l = append(l, api.Range{Low: c.number(), High: high})
	}
	return l
}

func (c *cursor) frame() api.Frame {
	kind := c.number()
	if kind > 0x30 || !slices.Contains(kinds, int(kind)) {
		c.fail(api.ErrKind)
	}
	f := api.Frame{Kind: int(kind)}
	switch kind {
	case 0x02:
		f.Ranges = c.ranges()
	case 0x04:
		f.Id, f.Code, f.Off = c.number(), c.number(), c.number()
	case 0x08:
		f.Id, f.Off, f.Fin = c.number(), c.number(), c.fin()
		f.Data = c.bytes(c.number())
	case 0x11:
		f.Id, f.Off = c.number(), c.number()
	case 0x1c:
		f.Code = c.number()
	case 0x30:
		f.Data = c.bytes(c.number())
	}
	if c.e == api.OK {
		c.fail(fault(f))
	}
	return f
}

// parsed is what Parse must answer.
func parsed(s string) ([]api.Frame, api.Errno) {
	c := &cursor{s: s}
	var l []api.Frame
	for c.at < len(s) {
		f := c.frame()
		if c.e != api.OK {
			return nil, c.e
		}
		if f.Kind != 0x00 {
			l = append(l, f)
		}
		if len(l) > 64 {
			return nil, api.ErrLong
		}
	}
	return l, api.OK
}

func same(a, b api.Frame) bool {
	return a.Kind == b.Kind && a.Id == b.Id && a.Off == b.Off && a.Fin == b.Fin && a.Code == b.Code && a.Data == b.Data && slices.Equal(a.Ranges, b.Ranges)
}

// withoutPads is frames but those of FPad.
func withoutPads(l []api.Frame) (out []api.Frame) {
	for _, f := range l {
		if f.Kind != 0x00 {
			out = append(out, f)
		}
	}
	return out
}

// row is the bytes of right frames.
func row(l ...api.Frame) string {
	var out strings.Builder
	for _, f := range l {
		out.WriteString(layout(f, number))
	}
	return out.String()
}

// short is the beginning of bytes, for they may be many.
func short(s string) string {
	return s[:min(len(s), 40)]
}

// wantCheck asks Check, and also Size and Write, for what is wrong with a frame.
func wantCheck(t *testing.T, name string, f api.Frame, want api.Errno) {
	t.Helper()
	if e := fault(f); e != want {
		t.Fatalf("%s: the test says of kind %d both %d and %d", name, f.Kind, want, e)
	}
	if e := frames.Check(f); e != want {
		t.Errorf("%s: Check of kind %d is %d, want %d", name, f.Kind, e, want)
	}
	bytes := ""
	if want == api.OK {
		bytes = layout(f, number)
	}
	if n := frames.Size(f); n != len(bytes) {
		t.Errorf("%s: Size of kind %d is %d, want %d", name, f.Kind, n, len(bytes))
	}
	wantWrite(t, name, []api.Frame{f}, bytes, want)
}

func wantWrite(t *testing.T, name string, l []api.Frame, bytes string, want api.Errno) {
	t.Helper()
	if s, e := frames.Write(l); s != bytes || e != want {
		t.Errorf("%s: Write is %d bytes %x, %d; want %d bytes %x, %d", name, len(s), short(s), e, len(bytes), short(bytes), want)
	}
}

func wantParse(t *testing.T, name, s string, list []api.Frame, want api.Errno) {
	t.Helper()
	if l, e := parsed(s); !slices.EqualFunc(l, list, same) || e != want {
		t.Fatalf("%s: the test says of %x both %d frames, %d, and %d frames, %d", name, short(s), len(list), want, len(l), e)
	}
	if l, e := frames.Parse(s); !slices.EqualFunc(l, list, same) || e != want {
		t.Errorf("%s: Parse of %d bytes %x is %d frames, %d; want %d frames, %d", name, len(s), short(s), len(l), e, len(list), want)
	}
}

func wantFault(t *testing.T, name, s string, want api.Errno) {
	t.Helper()
	wantParse(t, name, s, nil, want)
}

// ordinary is a right frame of each kind, with no field that is its own at zero.
func ordinary() []api.Frame {
	return []api.Frame{
		{Kind: 0x00},
		{Kind: 0x01},
		{Kind: 0x02, Ranges: []api.Range{{Low: 70, High: 80}, {Low: 5, High: 8}, {Low: 1, High: 1}}},
		{Kind: 0x04, Id: 4, Off: 300, Code: 0x10e},
		{Kind: 0x08, Id: 8, Off: 70, Fin: true, Data: "some data"},
		{Kind: 0x11, Id: 12, Off: 4096},
		{Kind: 0x1c, Code: 0x33},
		{Kind: 0x30, Data: "a datagram"},
	}
}

// rightFrames are frames of all kinds, at their edges.
func rightFrames() []api.Frame {
	l := ordinary()
	for _, kind := range []int{0x04, 0x08, 0x11, 0x1c, 0x30} {
		l = append(l, api.Frame{Kind: kind})
	}
	for _, n := range rightNumbers {
		l = append(l,
			api.Frame{Kind: 0x04, Id: n}, api.Frame{Kind: 0x04, Code: n}, api.Frame{Kind: 0x04, Off: n}, api.Frame{Kind: 0x04, Id: n, Code: n, Off: n},
			api.Frame{Kind: 0x08, Id: n}, api.Frame{Kind: 0x08, Off: n}, api.Frame{Kind: 0x08, Id: n, Off: n, Fin: true},
			api.Frame{Kind: 0x11, Id: n}, api.Frame{Kind: 0x11, Off: n}, api.Frame{Kind: 0x11, Id: n, Off: n},
			api.Frame{Kind: 0x1c, Code: n},
			api.Frame{Kind: 0x02, Ranges: []api.Range{{Low: n, High: n}}},
			api.Frame{Kind: 0x02, Ranges: []api.Range{{Low: 0, High: n}}},
			api.Frame{Kind: 0x02, Ranges: []api.Range{{Low: n, High: greatest}}},
		)
	}
	for _, count := range []int{1, 2, 63, 64, 255, 256, 1199, 1200} {
		data := strings.Repeat("\x00\xff", count)[:count]
		l = append(l,
			api.Frame{Kind: 0x30, Data: data}, api.Frame{Kind: 0x08, Data: data}, api.Frame{Kind: 0x08, Id: 28, Off: 1 << 20, Fin: true, Data: data},
			api.Frame{Kind: 0x08, Off: greatest - int64(count), Data: data},
		)
	}
	for _, count := range []int{1, 2, 15, 16} {
		l = append(l, api.Frame{Kind: 0x02, Ranges: falling(count)})
	}
	return l
}

// TestExamples is promises 9.1 and 9.2 at the chapter's examples.
func TestExamples(t *testing.T) {
	wantWrite(t, "hi", []api.Frame{{Kind: api.FStream, Id: 4, Fin: true, Data: "hi"}}, "\x08\x04\x00\x01\x02hi", api.OK)
	wantParse(t, "a ping", "\x00\x00\x01", []api.Frame{{Kind: api.FPing}}, api.OK)
	wantFault(t, "no ranges", "\x02\x00", api.ErrField)
	wantFault(t, "no kind", "\x03", api.ErrKind)
	wantFault(t, "no Fin", "\x08\x04\x00\x02", api.ErrField)
}

// TestKinds is promise 9.1 of each kind, and of kinds that are none.
func TestKinds(t *testing.T) {
	for _, f := range ordinary() {
		wantCheck(t, "ordinary", f, api.OK)
	}
	none := []int{
		math.MinInt64, math.MinInt64 + 1, math.MinInt64 + 2, math.MinInt64 + 0x30, -1 << 62, -1<<32 + 1, -0x100 + 1, math.MaxInt64, math.MaxInt64 - 1, 1 << 62, 1<<62 - 1, 1 << 62 >> 1,
	}
	for _, kind := range kinds {
		// Those of which a part of the bits is a kind.
		none = append(none, kind+1<<6, kind+1<<7, kind+1<<8, kind+1<<14, kind+1<<16, kind+1<<31, kind+1<<32, kind+1<<62, kind-1<<8, kind-1<<32)
		if kind != 0 {
			none = append(none, -kind)
		}
	}
	for kind := -300; kind <= 300; kind++ {
		if !slices.Contains(kinds, kind) {
			none = append(none, kind)
		}
	}
	for _, kind := range none {
		wantCheck(t, "none", api.Frame{Kind: kind}, api.ErrKind)
		for _, f := range ordinary() {
			f.Kind = kind
			wantCheck(t, "none, with fields", f, api.ErrKind)
		}
	}
}

// setters give a frame one field that is not zero.
var setters = map[string][]func(f *api.Frame){
	"Id":   {func(f *api.Frame) { f.Id = 1 }, func(f *api.Frame) { f.Id = greatest }, func(f *api.Frame) { f.Id = -1 }, func(f *api.Frame) { f.Id = math.MinInt64 }, func(f *api.Frame) { f.Id = math.MaxInt64 }},
	"Off":  {func(f *api.Frame) { f.Off = 1 }, func(f *api.Frame) { f.Off = greatest }, func(f *api.Frame) { f.Off = -1 }, func(f *api.Frame) { f.Off = math.MinInt64 }, func(f *api.Frame) { f.Off = math.MaxInt64 }},
	"Fin":  {func(f *api.Frame) { f.Fin = true }},
	"Code": {func(f *api.Frame) { f.Code = 1 }, func(f *api.Frame) { f.Code = greatest }, func(f *api.Frame) { f.Code = -1 }, func(f *api.Frame) { f.Code = math.MinInt64 }, func(f *api.Frame) { f.Code = math.MaxInt64 }},
	"Data": {func(f *api.Frame) { f.Data = "\x00" }, func(f *api.Frame) { f.Data = "data" }, func(f *api.Frame) { f.Data = strings.Repeat("x", 1201) }},
	"Ranges": {
		func(f *api.Frame) { f.Ranges = []api.Range{{}} }, func(f *api.Frame) { f.Ranges = falling(3) },
		func(f *api.Frame) { f.Ranges = falling(17) }, func(f *api.Frame) { f.Ranges = []api.Range{{Low: 1}} },
	},
}

// TestOtherFields is promise 9.1 of each field that does not belong to a kind.
func TestOtherFields(t *testing.T) {
	tried := 0
	for _, first := range ordinary() {
		for field, sets := range setters {
			if has(first.Kind, field) {
				continue
			}
			for _, set := range sets {
				f := first
				set(&f)
				wantCheck(t, "not its own: "+field, f, api.ErrField)
				bare := api.Frame{Kind: first.Kind}
				set(&bare)
				wantCheck(t, "not its own, alone: "+field, bare, api.ErrField)
				tried++
			}
		}
	}
	if tried < 100 {
		t.Errorf("only %d were tried", tried)
	}
}

// TestEmptyRanges is promise 9.1 with R3: ranges that are empty are no field, be they nil or not.
func TestEmptyRanges(t *testing.T) {
	for _, empty := range [][]api.Range{nil, {}, make([]api.Range, 0, 8), falling(3)[:0]} {
		for _, f := range ordinary() {
			f.Ranges = empty
			if f.Kind == 0x02 {
				wantCheck(t, "empty", f, api.ErrField)
			} else {
				wantCheck(t, "empty", f, api.OK)
			}
		}
	}
}

// TestNumbers is promise 9.1 of each number of each kind, right and wrong.
func TestNumbers(t *testing.T) {
	for _, f := range rightFrames() {
		wantCheck(t, "right", f, api.OK)
	}
	for _, c := range []struct {
		name  string
		kinds []int
		place func(f *api.Frame) *int64
	}{
		{"Id", []int{0x04, 0x08, 0x11}, func(f *api.Frame) *int64 { return &f.Id }},
		{"Off", []int{0x04, 0x08, 0x11}, func(f *api.Frame) *int64 { return &f.Off }},
		{"Code", []int{0x04, 0x1c}, func(f *api.Frame) *int64 { return &f.Code }},
	} {
		for _, f := range ordinary() {
			if !slices.Contains(c.kinds, f.Kind) {
				continue
			}
			f.Data = ""
			for _, n := range wrongNumbers {
				*c.place(&f) = n
				wantCheck(t, c.name, f, api.ErrRange)
			}
			for _, n := range rightNumbers {
				*c.place(&f) = n
				wantCheck(t, c.name, f, api.OK)
			}
		}
	}
}

// TestOffAndData is promise 9.1 of Off and Data of FStream, that are too great together.
func TestOffAndData(t *testing.T) {
	for _, count := range []int{0, 1, 2, 3, 63, 64, 1199, 1200} {
		f := api.Frame{Kind: 0x08, Id: 4, Data: strings.Repeat("x", count)}
		f.Off = greatest - int64(count)
		wantCheck(t, "together the greatest", f, api.OK)
		wantParse(t, "together the greatest", row(f), []api.Frame{f}, api.OK)
		f.Off++
		wantCheck(t, "one more", f, api.ErrRange)
		for _, n := range wrongNumbers {
			f.Off = n
			wantCheck(t, "wrong by itself", f, api.ErrRange)
		}
		if count > 0 {
			f.Off = greatest
			wantCheck(t, "all of Data more", f, api.ErrRange)
			// Below 0 it stays wrong, though together with Data it would not be.
			f.Off = -int64(count)
			wantCheck(t, "together nought", f, api.ErrRange)
		}
	}
	// Off of other kinds stands alone.
	wantCheck(t, "FReset", api.Frame{Kind: 0x04, Off: greatest, Id: greatest, Code: greatest}, api.OK)
	wantCheck(t, "FLimit", api.Frame{Kind: 0x11, Off: greatest, Id: greatest}, api.OK)
}

// TestData is promise 9.1 of how long Data may be.
func TestData(t *testing.T) {
	for _, kind := range []int{0x08, 0x30} {
		for count, want := range map[int]api.Errno{0: api.OK, 1: api.OK, 1199: api.OK, 1200: api.OK, 1201: api.ErrLong, 1202: api.ErrLong, 1 << 14: api.ErrLong, 1 << 16: api.ErrLong, 1<<20 + 3: api.ErrLong} {
			wantCheck(t, "Data", api.Frame{Kind: kind, Data: strings.Repeat("\xff", count)}, want)
		}
	}
}

// TestRanges is promise 9.1 of Ranges: empty, not right, sixteen and seventeen.
func TestRanges(t *testing.T) {
	wantCheck(t, "none", api.Frame{Kind: 0x02}, api.ErrField)
	for count := 1; count <= 40; count++ {
		want := api.OK
		if count > 16 {
			want = api.ErrField
		}
		wantCheck(t, "falling", api.Frame{Kind: 0x02, Ranges: falling(count)}, want)
	}
	for _, l := range wrongRanges {
		wantCheck(t, "not right", api.Frame{Kind: 0x02, Ranges: l}, api.ErrField)
	}
	wantCheck(t, "a gap of one number", api.Frame{Kind: 0x02, Ranges: []api.Range{{Low: 6, High: 8}, {Low: 4, High: 4}}}, api.OK)
	wantCheck(t, "all", api.Frame{Kind: 0x02, Ranges: []api.Range{{Low: 0, High: greatest}}}, api.OK)
	wantCheck(t, "the wrong one is the last", api.Frame{Kind: 0x02, Ranges: append(falling(15), api.Range{Low: 2, High: 1})}, api.ErrField)
}

// TestSeveralFaults is promise 9.1 with R2: of several faults of a frame the one that is named first is the answer.
func TestSeveralFaults(t *testing.T) {
	long := strings.Repeat("x", 1201)
	for _, c := range []struct {
		name string
		f    api.Frame
		want api.Errno
	}{
		{"all, of no kind", api.Frame{Kind: 3, Id: -1, Off: -1, Fin: true, Code: -1, Data: long, Ranges: falling(17)}, api.ErrKind},
		{"all, of FPad", api.Frame{Kind: 0x00, Id: -1, Off: -1, Fin: true, Code: -1, Data: long, Ranges: falling(17)}, api.ErrField},
		{"all, of FAck", api.Frame{Kind: 0x02, Id: -1, Off: -1, Fin: true, Code: -1, Data: long}, api.ErrField},
		{"all, of FStream", api.Frame{Kind: 0x08, Id: -1, Off: -1, Fin: true, Code: -1, Data: long, Ranges: falling(17)}, api.ErrField},
		{"another's field, and Id", api.Frame{Kind: 0x08, Id: -1, Code: 1}, api.ErrField},
		{"another's field, and Off", api.Frame{Kind: 0x11, Off: greatest + 1, Data: "x"}, api.ErrField},
		{"another's field, and Data", api.Frame{Kind: 0x30, Data: long, Id: 1}, api.ErrField},
		{"another's ranges, and Data", api.Frame{Kind: 0x30, Data: long, Ranges: falling(1)}, api.ErrField},
		{"another's field below 0", api.Frame{Kind: 0x1c, Off: -1}, api.ErrField},
		{"another's Data too long", api.Frame{Kind: 0x1c, Data: long}, api.ErrField},
		{"another's Data, and Code", api.Frame{Kind: 0x1c, Data: long, Code: -1}, api.ErrField},
		{"Id, and Data", api.Frame{Kind: 0x08, Id: -1, Data: long}, api.ErrRange},
		{"Id too great, and Data", api.Frame{Kind: 0x08, Id: greatest + 1, Data: long}, api.ErrRange},
		{"Off, and Data", api.Frame{Kind: 0x08, Off: greatest + 1, Data: long}, api.ErrRange},
		{"Off below 0, and Data", api.Frame{Kind: 0x08, Off: -1, Data: long}, api.ErrRange},
		{"together too great, and Data", api.Frame{Kind: 0x08, Off: greatest - 1200, Data: long}, api.ErrRange},
		{"together not too great, and Data", api.Frame{Kind: 0x08, Off: greatest - 1201, Data: long}, api.ErrLong},
		{"another's field, and no ranges", api.Frame{Kind: 0x02, Code: 1}, api.ErrField},
	} {
		wantCheck(t, c.name, c.f, c.want)
	}
}

// TestEveryMix is promise 9.1 of every kind with every mix of fields that are zero, right and wrong.
func TestEveryMix(t *testing.T) {
	numbers := []int64{0, 7, -1, greatest, greatest + 1}
	texts := []string{"", "x", strings.Repeat("x", 1200), strings.Repeat("x", 1201)}
	ranges := [][]api.Range{nil, falling(1), falling(17), {{Low: 1}}}
	for _, kind := range append([]int{-1, 3, 0x31}, kinds...) {
		for _, id := range numbers {
			for _, off := range append([]int64{greatest - 1200}, numbers...) {
				for _, code := range numbers {
					for _, data := range texts {
						for i, l := range ranges {
							f := api.Frame{Kind: kind, Id: id, Off: off, Fin: (id+off+code+int64(i))%2 == 0, Code: code, Data: data, Ranges: l}
							wantMix(t, f)
							f.Fin = !f.Fin
							wantMix(t, f)
						}
					}
				}
			}
		}
	}
}

func wantMix(t *testing.T, f api.Frame) {
	t.Helper()
	want := fault(f)
	if e := frames.Check(f); e != want {
		t.Fatalf("Check of kind %d, Id %d, Off %d, Fin %v, Code %d, %d bytes, %d ranges is %d, want %d", f.Kind, f.Id, f.Off, f.Fin, f.Code, len(f.Data), len(f.Ranges), e, want)
	}
	size := 0
	if want == api.OK {
		size = len(layout(f, number))
	}
	if n := frames.Size(f); n != size {
		t.Fatalf("Size of kind %d is %d, want %d", f.Kind, n, size)
	}
}

// TestWrite is promise 9.1 of each kind's bytes, written out here.
func TestWrite(t *testing.T) {
	for _, c := range []struct {
		f    api.Frame
		want string
	}{
		{api.Frame{Kind: api.FPad}, "\x00"},
		{api.Frame{Kind: api.FPing}, "\x01"},
		{api.Frame{Kind: api.FAck, Ranges: []api.Range{{Low: 5, High: 8}}}, "\x02\x01\x08\x05"},
		{api.Frame{Kind: api.FAck, Ranges: []api.Range{{Low: 64, High: 300}, {Low: 0, High: 1}}}, "\x02\x02\x41\x2c\x40\x40\x01\x00"},
		{api.Frame{Kind: api.FReset, Id: 4, Code: 0x10e, Off: 7}, "\x04\x04\x41\x0e\x07"},
		{api.Frame{Kind: api.FStream, Id: 4, Off: 70}, "\x08\x04\x40\x46\x00\x00"},
		{api.Frame{Kind: api.FStream, Id: 1, Off: 2, Fin: true, Data: "abc"}, "\x08\x01\x02\x01\x03abc"},
		{api.Frame{Kind: api.FLimit, Id: 28, Off: 4096}, "\x11\x1c\x50\x00"},
		{api.Frame{Kind: api.FClose, Code: 0x0a}, "\x1c\x0a"},
		{api.Frame{Kind: api.FClose, Code: greatest}, "\x1c\xff\xff\xff\xff\xff\xff\xff\xff"},
		{api.Frame{Kind: api.FDgram}, "\x30\x00"},
		{api.Frame{Kind: api.FDgram, Data: "\xff\x00"}, "\x30\x02\xff\x00"},
	} {
		wantCheck(t, "alone", c.f, api.OK)
		wantWrite(t, "alone", []api.Frame{c.f}, c.want, api.OK)
		wantWrite(t, "twice", []api.Frame{c.f, c.f}, c.want+c.want, api.OK)
		wantWrite(t, "between", []api.Frame{{Kind: api.FPing}, c.f, {Kind: api.FPad}}, "\x01"+c.want+"\x00", api.OK)
		if n := frames.Size(c.f); n != len(c.want) {
			t.Errorf("Size of kind %d is %d, want %d", c.f.Kind, n, len(c.want))
		}
	}
}

// TestWriteRows is promise 9.1 of no frames, and of many: there is no limit.
func TestWriteRows(t *testing.T) {
	wantWrite(t, "none", nil, "", api.OK)
	wantWrite(t, "none", []api.Frame{}, "", api.OK)
	all := rightFrames()
	wantWrite(t, "all", all, row(all...), api.OK)
	for _, count := range []int{63, 64, 65, 5000} {
		for _, f := range ordinary() {
			wantWrite(t, "many", slices.Repeat([]api.Frame{f}, count), strings.Repeat(row(f), count), api.OK)
		}
	}
	sum := 0
	for _, f := range all {
		sum += frames.Size(f)
	}
	if s, _ := frames.Write(all); len(s) != sum {
		t.Errorf("Write has %d bytes, the sizes are together %d", len(s), sum)
	}
}

// faulty are frames of each error.
var faulty = map[api.Errno]api.Frame{
	api.ErrKind:  {Kind: 5},
	api.ErrField: {Kind: 0x01, Fin: true},
	api.ErrRange: {Kind: 0x1c, Code: -1},
	api.ErrLong:  {Kind: 0x30, Data: strings.Repeat("x", 1201)},
}

// TestWriteFaults is promise 9.1 with R2: the first member that is not right has the answer, and there are no bytes.
func TestWriteFaults(t *testing.T) {
	good := ordinary()
	for e, f := range faulty {
		wantCheck(t, "faulty", f, e)
		wantWrite(t, "the only one", []api.Frame{f}, "", e)
		for i := range len(good) + 1 {
			wantWrite(t, "among good ones", slices.Insert(slices.Clone(good), i, f), "", e)
		}
		wantWrite(t, "behind many", append(slices.Repeat(good, 200), f), "", e)
		for other, g := range faulty {
			wantWrite(t, "ahead of another", []api.Frame{f, g}, "", e)
			wantWrite(t, "ahead of another", []api.Frame{good[1], f, good[2], g, f}, "", e)
			wantWrite(t, "behind another", []api.Frame{good[1], g, good[2], f}, "", other)
		}
	}
	wantWrite(t, "no ranges", []api.Frame{good[1], {Kind: 0x02}, faulty[api.ErrKind]}, "", api.ErrField)
}

// TestHandedIn is promise 9.1 with R4: no call changes frames, their ranges, or what lies behind the end of either.
func TestHandedIn(t *testing.T) {
	spare := append(falling(3), api.Range{Low: 77, High: 78}, api.Range{Low: 1, High: -1})
	list := []api.Frame{{Kind: 0x02, Ranges: spare[:3]}, {Kind: 0x08, Id: 4, Data: "data"}, {Kind: 0x30, Id: 9, Data: "behind the end"}}
	for _, l := range [][]api.Frame{list[:2], {list[0], list[1], {Kind: 9}}} {
		frames.Write(l)
		for _, f := range l {
			frames.Check(f)
			frames.Size(f)
			frames.Elicits(f)
		}
	}
	wantList := []api.Frame{{Kind: 0x02, Ranges: falling(3)}, {Kind: 0x08, Id: 4, Data: "data"}, {Kind: 0x30, Id: 9, Data: "behind the end"}}
	if !slices.EqualFunc(list, wantList, same) {
		t.Errorf("the frames are now %v", list)
	}
	if want := append(falling(3), api.Range{Low: 77, High: 78}, api.Range{Low: 1, High: -1}); !slices.Equal(spare, want) {
		t.Errorf("the ranges are now %v", spare)
	}
}

// TestParse is promise 9.2 of each kind's bytes, alone and with others.
func TestParse(t *testing.T) {
	wantParse(t, "no bytes", "", nil, api.OK)
	good := rightFrames()
	for i, f := range good {
		wantParse(t, "alone", row(f), withoutPads([]api.Frame{f}), api.OK)
		next := good[(i+1)%len(good)]
		wantParse(t, "ahead of another", row(f, next), withoutPads([]api.Frame{f, next}), api.OK)
		wantParse(t, "thrice", row(f, f, f), withoutPads([]api.Frame{f, f, f}), api.OK)
	}
	all := ordinary()
	wantParse(t, "all kinds", row(all...), all[1:], api.OK)
	slices.Reverse(all)
	wantParse(t, "all kinds, backward", row(all...), all[:len(all)-1], api.OK)
}

// TestParseBytes is promise 9.2 of bytes that are written out here.
func TestParseBytes(t *testing.T) {
	for s, want := range map[string]api.Frame{
		"\x01":                     {Kind: api.FPing},
		"\x02\x01\x08\x05":         {Kind: api.FAck, Ranges: []api.Range{{Low: 5, High: 8}}},
		"\x02\x02\x09\x07\x05\x00": {Kind: api.FAck, Ranges: []api.Range{{Low: 7, High: 9}, {Low: 0, High: 5}}},
		"\x04\x01\x02\x03":         {Kind: api.FReset, Id: 1, Code: 2, Off: 3},
		"\x08\x01\x02\x00\x01x":    {Kind: api.FStream, Id: 1, Off: 2, Data: "x"},
		"\x08\x00\x00\x01\x00":     {Kind: api.FStream, Fin: true},
		"\x11\x01\x02":             {Kind: api.FLimit, Id: 1, Off: 2},
		"\x1c\x07":                 {Kind: api.FClose, Code: 7},
		"\x30\x02\x01\x00":         {Kind: api.FDgram, Data: "\x01\x00"},
	} {
		wantParse(t, "written out", s, []api.Frame{want}, api.OK)
		wantParse(t, "written out, and a ping", s+"\x01", []api.Frame{want, {Kind: api.FPing}}, api.OK)
	}
}

// TestCut is promise 9.2 of frames that are cut at every byte, also behind good ones.
func TestCut(t *testing.T) {
	ahead := ordinary()
	for _, f := range rightFrames() {
		for name, put := range map[string]func(n int64) string{"shortest": number, "longest": func(n int64) string { return wide(n, 8) }} {
			s := layout(f, put)
			for end := 1; end < len(s); end++ {
				wantFault(t, name, s[:end], api.ErrShort)
				if end < 30 {
					wantFault(t, name+", behind good ones", row(ahead...)+s[:end], api.ErrShort)
				}
			}
		}
	}
}

// TestLongNumbers is promise 9.2 of kinds and numbers in more bytes than they need, one by one and all at once.
func TestLongNumbers(t *testing.T) {
	for _, f := range rightFrames() {
		want := withoutPads([]api.Frame{f})
		count := 0
		layout(f, func(n int64) string { count++; return "" })
		for i := range count {
			for size := range 4 {
				place := 0
				s := layout(f, func(n int64) string {
					place++
					if place == i+1 {
						sizes := room(n)
						return wide(n, sizes[size%len(sizes)])
					}
					return number(n)
				})
				wantParse(t, "one long", s, want, api.OK)
			}
		}
		s := layout(f, func(n int64) string { return wide(n, 8) })
		wantParse(t, "all long", s+"\x40\x01"+s, append(append(slices.Clone(want), api.Frame{Kind: 0x01}), want...), api.OK)
	}
	wantParse(t, "long pads", "\x40\x00\x80\x00\x00\x00\xc0\x00\x00\x00\x00\x00\x00\x00", nil, api.OK)
}

// TestParseKinds is promise 9.2 of every kind that a number can be.
func TestParseKinds(t *testing.T) {
	none := []int64{1 << 14, 1 << 16, 1 << 30, 1<<30 + 1, 1 << 31, 1 << 32, 1<<32 + 1, 1<<32 + 8, 1<<48 + 1, 1<<61 + 1, greatest, greatest - 1}
	for kind := int64(0); kind < 1<<14; kind++ {
		if kind > 0x30 || !slices.Contains(kinds, int(kind)) {
			none = append(none, kind)
		}
	}
	for _, kind := range none {
		for _, size := range room(kind) {
			s := wide(kind, size)
			wantFault(t, "none", s, api.ErrKind)
			wantFault(t, "none, with more", s+"\x00\x00\x00\x00\x00", api.ErrKind)
			wantFault(t, "none, behind a good one", "\x01"+s, api.ErrKind)
			if size > 1 {
				wantFault(t, "none, cut", s[:size-1], api.ErrShort)
			}
		}
	}
}

// TestFin is promise 9.2 of every byte of Fin, also where nothing follows it.
func TestFin(t *testing.T) {
	for b := range 256 {
		head := "\x08\x04\x07" + string([]byte{byte(b)})
		f := api.Frame{Kind: 0x08, Id: 4, Off: 7, Fin: b == 1, Data: "ab"}
		if b < 2 {
			wantParse(t, "Fin", head+"\x02ab", []api.Frame{f}, api.OK)
			wantFault(t, "Fin, then nothing", head, api.ErrShort)
			continue
		}
		wantFault(t, "Fin", head+"\x02ab", api.ErrField)
		wantFault(t, "Fin, then nothing", head, api.ErrField)
		wantFault(t, "Fin, then too little", head+"\x02a", api.ErrField)
		wantFault(t, "Fin, then too much", head+number(1201)+strings.Repeat("x", 1201), api.ErrField)
		wantFault(t, "Fin, Off too great", "\x08\x04"+number(greatest)+string([]byte{byte(b)})+"\x01x", api.ErrField)
		wantFault(t, "Fin, then no kind", head+"\x00\x03", api.ErrField)
	}
}

// TestRangeCount is promise 9.2 of how many ranges there are to be: it is told as soon as that is read.
func TestRangeCount(t *testing.T) {
	plenty := strings.Repeat("\x05\x05", 100)
	for _, count := range []int64{0, 17, 18, 32, 63, 64, 100, 255, 256, 272, 1 << 14, 1 << 16, 1<<16 + 1, 1 << 30, 1 << 31, 1<<32 + 1, 1 << 61, greatest} {
		for _, size := range room(count) {
			s := "\x02" + wide(count, size)
			wantFault(t, "nothing follows", s, api.ErrField)
			wantFault(t, "a ping follows", s+"\x01", api.ErrField)
			wantFault(t, "half a number follows", s+"\x40", api.ErrField)
			wantFault(t, "plenty follows", s+plenty, api.ErrField)
			wantFault(t, "cut", s[:len(s)-1], api.ErrShort)
		}
	}
	for count := int64(1); count <= 16; count++ {
		for _, size := range room(count) {
			s := "\x02" + wide(count, size)
			wantFault(t, "nothing follows", s, api.ErrShort)
			wantFault(t, "too little follows", s+strings.Repeat("\x05", 2*int(count)-1), api.ErrShort)
		}
	}
	wantFault(t, "seventeen that would be right", "\x02\x11"+row(api.Frame{Kind: 0x02, Ranges: falling(17)})[2:], api.ErrField)
}

// TestWrongRanges is promise 9.2 of ranges that are not right: that is told behind the last of them.
func TestWrongRanges(t *testing.T) {
	for _, l := range wrongRanges {
		if len(l) > 16 || slices.ContainsFunc(l, func(r api.Range) bool { return r.Low < 0 || r.High < 0 || r.Low > greatest || r.High > greatest }) {
			continue
		}
		s := row(api.Frame{Kind: 0x02, Ranges: l})
		wantFault(t, "not right", s, api.ErrField)
		wantFault(t, "not right, then no kind", s+"\x03", api.ErrField)
		for end := 1; end < len(s); end++ {
			wantFault(t, "not right, cut", s[:end], api.ErrShort)
		}
	}
}

// TestDataCount is promise 9.2 of counts of Data that are greater than what is there.
func TestDataCount(t *testing.T) {
	for _, head := range []string{"\x30", "\x08\x04\x07\x01", "\x01\x30", "\x08" + number(greatest) + number(greatest) + "\x00"} {
		for _, count := range []int64{1, 2, 63, 64, 1200, 1201, 1 << 14, 1 << 16, 1 << 30, 1<<31 - 1, 1 << 31, 1 << 32, 1<<32 + 1, greatest - 1, greatest} {
			for _, size := range room(count) {
				s := head + wide(count, size)
				wantFault(t, "nothing is there", s, api.ErrShort)
				wantFault(t, "less is there", s+strings.Repeat("x", int(min(count-1, 3000))), api.ErrShort)
			}
		}
	}
}

// TestParseChecks is promise 9.2 of Check's errors, behind the last byte of a frame.
func TestParseChecks(t *testing.T) {
	for _, c := range []struct {
		name string
		f    api.Frame
		want api.Errno
	}{
		{"a datagram too long", api.Frame{Kind: 0x30, Data: strings.Repeat("x", 1201)}, api.ErrLong},
		{"a much longer one", api.Frame{Kind: 0x30, Data: strings.Repeat("x", 70000)}, api.ErrLong},
		{"a piece too long", api.Frame{Kind: 0x08, Data: strings.Repeat("x", 1201)}, api.ErrLong},
		{"a piece that ends too far", api.Frame{Kind: 0x08, Off: greatest, Data: "x"}, api.ErrRange},
		{"a piece that ends too far by one", api.Frame{Kind: 0x08, Off: greatest - 1199, Data: strings.Repeat("x", 1200)}, api.ErrRange},
		{"too far, and too long", api.Frame{Kind: 0x08, Off: greatest - 1200, Data: strings.Repeat("x", 1201)}, api.ErrRange},
		{"too long, and just not too far", api.Frame{Kind: 0x08, Off: greatest - 1201, Data: strings.Repeat("x", 1201)}, api.ErrLong},
		{"ranges that touch", api.Frame{Kind: 0x02, Ranges: []api.Range{{Low: 5, High: 8}, {Low: 4, High: 4}}}, api.ErrField},
		{"a range the wrong way round", api.Frame{Kind: 0x02, Ranges: []api.Range{{Low: 8, High: 5}}}, api.ErrField},
	} {
		s := row(c.f)
		wantFault(t, c.name, s, c.want)
		wantFault(t, c.name+", cut", s[:len(s)-1], api.ErrShort)
		wantFault(t, c.name+", behind a good one", "\x01"+s, c.want)
		wantFault(t, c.name+", ahead of no kind", s+"\x03", c.want)
		wantFault(t, c.name+", ahead of one that is cut", s+"\x1c", c.want)
	}
}

// TestFrameCount is promise 9.2 of 64 and of 65 frames, and that FPad is not counted.
func TestFrameCount(t *testing.T) {
	for _, f := range ordinary()[1:] {
		s := row(f)
		full := slices.Repeat([]api.Frame{f}, 64)
		wantParse(t, "63", strings.Repeat(s, 63), full[1:], api.OK)
		wantParse(t, "64", strings.Repeat(s, 64), full, api.OK)
		wantFault(t, "65", strings.Repeat(s, 65), api.ErrLong)
		wantFault(t, "66", strings.Repeat(s, 66), api.ErrLong)
		wantFault(t, "1000", strings.Repeat(s, 1000), api.ErrLong)
		pad := strings.Repeat("\x00", 100)
		wantParse(t, "64, with pads", pad+strings.Repeat(s+"\x00", 64)+pad, full, api.OK)
		wantFault(t, "65, with pads", pad+strings.Repeat(s+"\x00", 64)+pad+s, api.ErrLong)
	}
}

// TestFaultyOneTooMany is promise 9.2 of faults at the 65th frame: its own are named ahead of it being one too many; those behind it are not reached.
func TestFaultyOneTooMany(t *testing.T) {
	full := strings.Repeat("\x01", 64)
	for s, want := range map[string]api.Errno{
		"\x03":             api.ErrKind,
		"\x40":             api.ErrShort,
		"\x1c":             api.ErrShort,
		"\x08\x04\x00\x02": api.ErrField,
		"\x02\x00":         api.ErrField,
		"\x02\x01\x05\x06": api.ErrField,
		"\x08\x00" + number(greatest) + "\x00\x01x":       api.ErrRange,
		"\x30" + number(1201) + strings.Repeat("x", 1201): api.ErrLong,
		"\x01\x03":                     api.ErrLong,
		"\x01\x1c":                     api.ErrLong,
		"\x30\x00\x02\x00":             api.ErrLong,
		"\x00\x00\x03":                 api.ErrKind,
		"\x00\x1c\x05\x08\x04\x00\x02": api.ErrLong,
	} {
		wantFault(t, "the 65th", full+s, want)
	}
}

// TestPads is promise 9.2 of FPad ahead, between and behind, and of more than 64 of them.
func TestPads(t *testing.T) {
	for _, count := range []int{1, 2, 63, 64, 65, 1199, 70000} {
		pad := strings.Repeat("\x00", count)
		wantParse(t, "pads alone", pad, nil, api.OK)
		l := ordinary()[1:]
		for i := range len(l) + 1 {
			wantParse(t, "pads among frames", row(l[:i]...)+pad+row(l[i:]...), l, api.OK)
		}
		wantParse(t, "pads all around", pad+"\x01"+pad+"\x1c\x05"+pad, []api.Frame{{Kind: 0x01}, {Kind: 0x1c, Code: 5}}, api.OK)
		wantFault(t, "pads, then no kind", pad+"\x03", api.ErrKind)
		wantFault(t, "pads, then a cut frame", pad+"\x1c", api.ErrShort)
	}
}

// TestFirstFault is promise 9.2: behind good frames a fault is the answer, with no frames; of two it is the first.
func TestFirstFault(t *testing.T) {
	whole := map[string]api.Errno{
		"\x03":             api.ErrKind,
		"\x08\x04\x00\xff": api.ErrField,
		"\x02\x00":         api.ErrField,
		"\x02\x11":         api.ErrField,
		"\x02\x01\x00\x01": api.ErrField,
		"\x08\x00" + number(greatest) + "\x01\x01x":       api.ErrRange,
		"\x30" + number(1201) + strings.Repeat("x", 1201): api.ErrLong,
	}
	good := ordinary()
	for s, want := range whole {
		for i := range len(good) + 1 {
			wantFault(t, "a fault", row(good[:i]...)+s, want)
			wantFault(t, "a fault, then good ones", row(good[:i]...)+s+row(good[i:]...), want)
		}
		wantFault(t, "a fault behind many", strings.Repeat("\x01", 64)+"\x00"+s, want)
		for other := range whole {
			wantFault(t, "two faults", row(good...)+s+"\x01"+other, want)
		}
		wantFault(t, "a fault, then one that is cut", s+"\x11\x40", want)
	}
}

// TestNewMemory is promise 9.2 with R4: answers share nothing with one another, nor lists within an answer.
func TestNewMemory(t *testing.T) {
	one := api.Frame{Kind: 0x02, Ranges: falling(3)}
	two := api.Frame{Kind: 0x02, Ranges: falling(16)}
	s := row(one, two, one)
	want := []api.Frame{one, two, one}
	first, _ := frames.Parse(s)
	second, _ := frames.Parse(s)
	for i := range first {
		clear(first[i].Ranges)
		_ = append(first[i].Ranges, api.Range{Low: 1, High: 2}, api.Range{Low: 3, High: 4})
		for j := i + 1; j < len(first); j++ {
			if !same(first[j], want[j]) {
				t.Errorf("a change of frame %d changes frame %d", i, j)
			}
		}
	}
	clear(first)
	if !slices.EqualFunc(second, want, same) {
		t.Error("a change of an answer changes another")
	}
	wantParse(t, "once more", s, want, api.OK)
}

// TestElicits is promise 9.2: each kind but FPad, FAck and FClose asks for an answer; what is no kind does not.
func TestElicits(t *testing.T) {
	asks := map[int]bool{api.FPing: true, api.FReset: true, api.FStream: true, api.FLimit: true, api.FDgram: true}
	far := []int{math.MinInt64, math.MinInt64 + 1, -1<<32 + 1, 1<<32 + 1, 1<<32 + 8, 1<<16 + 8, 1<<62 + 1, math.MaxInt64 - 1, math.MaxInt64}
	for kind := -300; kind <= 300; kind++ {
		far = append(far, kind)
	}
	for _, kind := range far {
		// Fields that are wrong, or another kind's, are nothing to it.
		for _, f := range append(ordinary(), api.Frame{}, api.Frame{Id: -1, Off: -1, Fin: true, Code: -1, Data: strings.Repeat("x", 1201), Ranges: falling(17)}) {
			f.Kind = kind
			if got := frames.Elicits(f); got != asks[kind] {
				t.Errorf("Elicits of kind %d is %v", kind, got)
			}
		}
	}
}

// wantThereAndBack is promise 9.3 of frames: Parse of Write is what was written.
func wantThereAndBack(t *testing.T, l []api.Frame) {
	t.Helper()
	s, e := frames.Write(l)
	if e != api.OK {
		t.Fatalf("Write of %d frames is %d", len(l), e)
	}
	back, e := frames.Parse(s)
	if want := withoutPads(l); !slices.EqualFunc(back, want, same) || e != api.OK {
		t.Fatalf("Parse of Write is %d frames, %d; want %d frames", len(back), e, len(want))
	}
}

// wantNoLonger is promise 9.3 of bytes: Write of Parse has no more of them.
func wantNoLonger(t *testing.T, s string) {
	t.Helper()
	l, e := frames.Parse(s)
	if e != api.OK {
		return
	}
	again, e := frames.Write(l)
	if e != api.OK || len(again) > len(s) {
		t.Fatalf("Write of Parse of %d bytes %x is %d bytes, %d", len(s), short(s), len(again), e)
	}
	back, e := frames.Parse(again)
	if !slices.EqualFunc(back, l, same) || e != api.OK {
		t.Fatalf("Parse of what was written of Parse of %x is %d", short(s), e)
	}
}

// TestThereAndBack is promise 9.3 of each kind at its edges.
func TestThereAndBack(t *testing.T) {
	wantThereAndBack(t, nil)
	for _, f := range rightFrames() {
		wantThereAndBack(t, []api.Frame{f})
		wantThereAndBack(t, []api.Frame{{}, f, {}, f})
		wantNoLonger(t, row(f))
		wantNoLonger(t, "\x00"+layout(f, func(n int64) string { return wide(n, 8) }))
		if s, _ := frames.Write([]api.Frame{f}); s != row(f) {
			t.Errorf("what is written of kind %d is not the shortest", f.Kind)
		}
	}
}

// anyNumber is one of any size, often at an edge.
func anyNumber(r *rand.Rand) int64 {
	if r.Intn(3) == 0 {
		return rightNumbers[r.Intn(len(rightNumbers))]
	}
	return r.Int63n(greatest+1) >> r.Intn(62)
}

// anyFrame is a right frame.
func anyFrame(r *rand.Rand) api.Frame {
	f := api.Frame{Kind: kinds[r.Intn(len(kinds))]}
	data := make([]byte, r.Intn(40))
	r.Read(data)
	switch f.Kind {
	case 0x02:
		f.Ranges = falling(1 + r.Intn(16))
	case 0x04:
		f.Id, f.Code, f.Off = anyNumber(r), anyNumber(r), anyNumber(r)
	case 0x08:
		f.Id, f.Off, f.Fin, f.Data = anyNumber(r), min(anyNumber(r), greatest-40), r.Intn(2) == 0, string(data)
	case 0x11:
		f.Id, f.Off = anyNumber(r), anyNumber(r)
	case 0x1c:
		f.Code = anyNumber(r)
	case 0x30:
		f.Data = string(data)
	}
	return f
}

// TestRandomRows is promises 9.1 to 9.3 of random rows of frames, whole and with bytes changed, cut out or put in.
func TestRandomRows(t *testing.T) {
	r := rand.New(rand.NewSource(9))
	for range 6000 {
		l := make([]api.Frame, r.Intn(12))
		for i := range l {
			l[i] = anyFrame(r)
		}
		wantWrite(t, "random", l, row(l...), api.OK)
		wantThereAndBack(t, l)
		b := []byte(row(l...))
		for range 4 {
			switch at := r.Intn(len(b) + 1); {
			case at == len(b):
				b = append(b, byte(r.Intn(256)))
			case r.Intn(2) == 0:
				b[at] = byte(r.Intn(256))
			default:
				b = slices.Delete(b, at, at+1)
			}
			want, e := parsed(string(b))
			wantParse(t, "changed", string(b), want, e)
			wantNoLonger(t, string(b))
		}
	}
}

// TestEveryShortText is promise 9.2 of every text of up to two bytes, and of those of three that begin a frame.
func TestEveryShortText(t *testing.T) {
	ask := func(b ...byte) {
		want, e := parsed(string(b))
		wantParse(t, "short", string(b), want, e)
	}
	for a := range 256 {
		ask(byte(a))
		for b := range 256 {
			ask(byte(a), byte(b))
			if slices.Contains(kinds, a) {
				ask(byte(a), byte(b), 0x00)
				ask(byte(a), 0x01, byte(b))
				ask(byte(a), 0x01, byte(b), 0x01)
				ask(byte(a), 0x01, 0x00, byte(b))
			}
		}
	}
}

// FuzzParse is promises 9.2 and 9.3 of any bytes.
func FuzzParse(f *testing.F) {
	for _, one := range rightFrames() {
		f.Add(row(one))
	}
	f.Add(row(ordinary()...))
	f.Add(strings.Repeat("\x01", 65))
	f.Add("\x02\x01\x05\x06")
	f.Add("\x08" + number(greatest) + number(greatest) + "\x01\x01x")
	f.Fuzz(func(t *testing.T, s string) {
		want, e := parsed(s)
		wantParse(t, "fuzzed", s, want, e)
		wantNoLonger(t, s)
	})
}

// FuzzFrame is promises 9.1 and 9.3 of any frame.
func FuzzFrame(f *testing.F) {
	for _, one := range rightFrames() {
		f.Add(one.Kind, one.Id, one.Off, one.Fin, one.Code, one.Data, int64(3), int64(7), len(one.Ranges))
	}
	f.Fuzz(func(t *testing.T, kind int, id, off int64, fin bool, code int64, data string, low, step int64, count int) {
		one := api.Frame{Kind: kind, Id: id, Off: off, Fin: fin, Code: code, Data: data}
		for i := range min(max(count, 0), 20) {
			high := low - int64(i)*step
			one.Ranges = append(one.Ranges, api.Range{Low: high - step/2, High: high})
		}
		want := fault(one)
		wantCheck(t, "fuzzed", one, want)
		if want == api.OK {
			wantThereAndBack(t, []api.Frame{one, one})
		}
	})
}
