package fields_test

import (
	"encoding/binary"
	"regexp"
	"slices"
	"strings"
	"testing"

	"vizard/api"
	"vizard/fields"
)

// chapter is the table as the chapter has it.
const chapter = `0 | :authority |
1 | :path | /
2 | :method | CONNECT
3 | :method | GET
4 | :scheme | https
5 | :scheme | http
6 | :protocol | connect-udp
7 | :protocol | connect-ip
8 | :status | 200
9 | :status | 400
10 | :status | 403
11 | :status | 404
12 | :status | 429
13 | :status | 500
14 | :status | 503
15 | capsule-protocol | ?1
16 | content-type | text/plain
17 | proxy-status |
18 | user-agent |
19 | accept | */*`

// entries is the table, by its numbers.
var entries = func() (l []api.Field) {
	for line := range strings.Lines(chapter) {
		parts := strings.Split(line, "|")
		l = append(l, api.Field{Name: strings.TrimSpace(parts[1]), Value: strings.TrimSpace(parts[2])})
	}
	return l
}()

// firstNames are the entries that are the first ones of their names.
var firstNames = []int{0, 1, 2, 4, 6, 8, 15, 16, 17, 18, 19}

var (
	rightName  = regexp.MustCompile(`\A[-:a-z0-9]+\z`)
	rightValue = regexp.MustCompile(`\A[\x20-\x7e]*\z`)
)

// fault is what Check must answer of one field.
func fault(f api.Field) api.Errno {
	if len(f.Name) > 256 || len(f.Value) > 256 {
		return api.ErrLong
	}
	if !rightName.MatchString(f.Name) || !rightValue.MatchString(f.Value) {
		return api.ErrField
	}
	return api.OK
}

// checked is what Check must answer.
func checked(l []api.Field) api.Errno {
	if len(l) > 16 {
		return api.ErrLong
	}
	for _, f := range l {
		if e := fault(f); e != api.OK {
			return e
		}
	}
	return api.OK
}

// wide is a number in that many bytes.
func wide(n, size int) string {
	var b []byte
	switch size {
	case 1:
		b = []byte{byte(n)}
	case 2:
		b = binary.BigEndian.AppendUint16(nil, uint16(n)|1<<14)
	case 4:
		b = binary.BigEndian.AppendUint32(nil, uint32(n)|2<<30)
	case 8:
		b = binary.BigEndian.AppendUint64(nil, uint64(n)|3<<62)
	}
	return string(b)
}

// room are the sizes in which a number can be written, the least first.
func room(n int) []int {
	switch {
	case n < 1<<6:
		return []int{1, 2, 4, 8}
	case n < 1<<14:
		return []int{2, 4, 8}
	case n < 1<<30:
		return []int{4, 8}
	}
	return []int{8}
}

// text is bytes with their count in front, in the fewest bytes.
func text(s string) string {
	return wide(len(s), room(len(s))[0]) + s
}

// whole is the line that is an entry.
func whole(i int) string {
	return string([]byte{byte(0x80 + i)})
}

// named is the line with an entry's name.
func named(i int, value string) string {
	return string([]byte{byte(0x40 + i)}) + text(value)
}

// both is the line with a name and a value.
func both(f api.Field) string {
	return "\x00" + text(f.Name) + text(f.Value)
}

// line is what Write must make of a right field.
func line(f api.Field) string {
	if i := slices.Index(entries, f); i >= 0 {
		return whole(i)
	}
	if i := slices.IndexFunc(entries, func(entry api.Field) bool { return entry.Name == f.Name }); i >= 0 {
		return named(i, f.Value)
	}
	return both(f)
}

// section is what Write must make of right fields.
func section(l ...api.Field) string {
	var out strings.Builder
	for _, f := range l {
		out.WriteString(line(f))
	}
	return out.String()
}

// cursor reads what line writes. Behind its first fault nothing is read any more.
type cursor struct {
	s  string
	at int
	e  api.Errno
}

func (c *cursor) bytes(count uint64) string {
	if c.e == api.OK && count > uint64(len(c.s)-c.at) {
		c.e = api.ErrShort
	}
	if c.e != api.OK {
		return ""
	}
	from := c.at
	c.at += int(count)
	return c.s[from:c.at]
}

func (c *cursor) text() string {
	first := c.bytes(1)
	if c.e != api.OK {
		return ""
	}
	count := uint64(first[0] % 64)
	for _, b := range []byte(c.bytes(1<<(first[0]/64) - 1)) {
		count = count*256 + uint64(b)
	}
	return c.bytes(count)
}

func (c *cursor) line() (f api.Field) {
	first := int(c.bytes(1)[0])
	switch {
	case first == 0:
		f.Name = c.text()
		f.Value = c.text()
	case first >= 0x40 && first < 0x40+20:
		f.Name = entries[first-0x40].Name
		f.Value = c.text()
	case first >= 0x80 && first < 0x80+20:
		f = entries[first-0x80]
	default:
		c.e = api.ErrKind
	}
	return f
}

// parsed is what Read must answer.
func parsed(s string) ([]api.Field, api.Errno) {
	c := &cursor{s: s}
	var l []api.Field
	for c.at < len(s) {
		f := c.line()
		if c.e != api.OK {
			return nil, c.e
		}
		l = append(l, f)
		if len(l) == 17 {
			return nil, api.ErrLong
		}
		if e := fault(f); e != api.OK {
			return nil, e
		}
	}
	return l, api.OK
}

// short is the beginning of bytes, for they may be many.
func short(s string) string {
	return s[:min(len(s), 40)]
}

// wantWrite asks Check and Write.
func wantWrite(t *testing.T, name string, l []api.Field, bytes string, want api.Errno) {
	t.Helper()
	if e := checked(l); e != want {
		t.Fatalf("%s: the test says both %d and %d", name, want, e)
	}
	if e := fields.Check(l); e != want {
		t.Errorf("%s: Check of %d fields is %d, want %d", name, len(l), e, want)
	}
	if s, e := fields.Write(l); s != bytes || e != want {
		t.Errorf("%s: Write of %d fields is %d bytes %x, %d; want %d bytes %x, %d", name, len(l), len(s), short(s), e, len(bytes), short(bytes), want)
	}
}

// wantRight is that fields are right, and how they are written.
func wantRight(t *testing.T, name string, l ...api.Field) {
	t.Helper()
	wantWrite(t, name, l, section(l...), api.OK)
}

// wantWrong is what is wrong with fields.
func wantWrong(t *testing.T, name string, want api.Errno, l ...api.Field) {
	t.Helper()
	wantWrite(t, name, l, "", want)
}

func wantRead(t *testing.T, name, s string, list []api.Field, want api.Errno) {
	t.Helper()
	if l, e := parsed(s); !slices.Equal(l, list) || e != want {
		t.Fatalf("%s: the test says of %x both %d fields, %d, and %d fields, %d", name, short(s), len(list), want, len(l), e)
	}
	if l, e := fields.Read(s); !slices.Equal(l, list) || e != want {
		t.Errorf("%s: Read of %d bytes %x is %d fields, %d; want %d fields, %d", name, len(s), short(s), len(l), e, len(list), want)
	}
}

func wantFault(t *testing.T, name, s string, want api.Errno) {
	t.Helper()
	wantRead(t, name, s, nil, want)
}

// wantSame asks Read for what the test's own reader says.
func wantSame(t *testing.T, name, s string) {
	t.Helper()
	l, e := parsed(s)
	wantRead(t, name, s, l, e)
}

// ordinary are right fields with lines of all three forms.
func ordinary() []api.Field {
	return []api.Field{
		{Name: ":method", Value: "CONNECT"},
		{Name: ":protocol", Value: "connect-udp"},
		{Name: ":scheme", Value: "https"},
		{Name: ":path", Value: "/.well-known/masque/udp/10.0.0.1/53/"},
		{Name: ":authority", Value: "proxy.example:443"},
		{Name: "capsule-protocol", Value: "?1"},
		{Name: "x-tenant-7", Value: "a b ~"},
		{Name: "empty"},
	}
}

// rightFields are fields at their edges.
func rightFields() []api.Field {
	l := append(ordinary(), entries...)
	for _, entry := range entries {
		l = append(l, api.Field{Name: entry.Name}, api.Field{Name: entry.Name, Value: "other"}, api.Field{Name: entry.Name + "x", Value: entry.Value})
	}
	for _, size := range []int{1, 2, 63, 64, 255, 256} {
		long := strings.Repeat("x", size)
		l = append(l, api.Field{Name: long}, api.Field{Name: "a", Value: long}, api.Field{Name: long, Value: long}, api.Field{Name: ":path", Value: long})
	}
	return append(l, api.Field{Name: "-:az09", Value: " ~"}, api.Field{Name: ":"}, api.Field{Name: "-"}, api.Field{Name: "0"})
}

// wrongFields are those that are not right, of each way of being so.
func wrongFields() []api.Field {
	long := strings.Repeat("x", 257)
	return []api.Field{
		{Name: long}, {Name: "a", Value: long}, {Name: long, Value: long}, {Name: ":path", Value: long},
		{Name: "X", Value: long}, {Value: long}, {Name: long, Value: "\x00"}, {Name: strings.Repeat("X", 257)}, {Name: "a", Value: strings.Repeat("\xff", 257)},
		{}, {Value: "a"}, {Name: "X"}, {Name: "a b", Value: "c"}, {Name: "a", Value: "\x1f"}, {Name: ":path", Value: "\x7f"}, {Name: "\u00e9", Value: "\u00e9"},
		{Name: strings.Repeat("x", 255) + "X"}, {Name: "a", Value: strings.Repeat("x", 255) + "\x80"},
	}
}
