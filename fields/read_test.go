package fields_test

import (
	"math/rand"
	"slices"
	"strings"
	"testing"

	"vizard/api"
	"vizard/fields"
)

// TestFirstBytes is promise 14.2 of each first byte, alone and with texts behind it.
func TestFirstBytes(t *testing.T) {
	for first := range 256 {
		s := string([]byte{byte(first)})
		switch {
		case first == 0x00:
			wantFault(t, "both", s, api.ErrShort)
			wantFault(t, "both, and a name", s+"\x01a", api.ErrShort)
			wantRead(t, "both, and two texts", s+"\x01a\x01b", []api.Field{{Name: "a", Value: "b"}}, api.OK)
		case first >= 0x40 && first <= 0x53:
			name := entries[first-0x40].Name
			wantFault(t, "a name", s, api.ErrShort)
			wantRead(t, "a name, and a text", s+"\x01a", []api.Field{{Name: name, Value: "a"}}, api.OK)
			wantRead(t, "a name, and an empty text", s+"\x00", []api.Field{{Name: name}}, api.OK)
		case first >= 0x80 && first <= 0x93:
			entry := entries[first-0x80]
			wantRead(t, "an entry", s, []api.Field{entry}, api.OK)
			wantRead(t, "an entry, twice", s+s, []api.Field{entry, entry}, api.OK)
			wantFault(t, "an entry, and a text", s+"\x01a", api.ErrKind)
		default:
			wantFault(t, "none", s, api.ErrKind)
			wantFault(t, "none, and a text", s+"\x01a", api.ErrKind)
			wantFault(t, "none, and two texts", s+"\x01a\x01b", api.ErrKind)
			wantFault(t, "none, behind an entry", "\x82"+s, api.ErrKind)
			wantFault(t, "none, ahead of an entry", s+"\x82", api.ErrKind)
		}
	}
}

// TestFirstByteEdges is promise 14.2 right at the ends of the first bytes that there are.
func TestFirstByteEdges(t *testing.T) {
	wantRead(t, "00", "\x00\x01a\x00", []api.Field{{Name: "a"}}, api.OK)
	wantRead(t, "40", "\x40\x01a", []api.Field{{Name: ":authority", Value: "a"}}, api.OK)
	wantRead(t, "53", "\x53\x01a", []api.Field{{Name: "accept", Value: "a"}}, api.OK)
	wantRead(t, "80", "\x80", []api.Field{{Name: ":authority"}}, api.OK)
	wantRead(t, "93", "\x93", []api.Field{{Name: "accept", Value: "*/*"}}, api.OK)
	for _, first := range []string{"\x01", "\x3f", "\x54", "\x7f", "\x94", "\xbf", "\xc0", "\xd3", "\xd4", "\xff"} {
		wantFault(t, "none", first+"\x01a\x01a", api.ErrKind)
		wantFault(t, "none, and nothing follows", first, api.ErrKind)
	}
}

// TestCut is promise 14.2 of lines of all forms, cut at every byte, alone and behind others.
func TestCut(t *testing.T) {
	for _, f := range rightFields() {
		lines := []string{line(f), both(f), "\x00" + wide(len(f.Name), 8) + f.Name + wide(len(f.Value), 4) + f.Value}
		for _, s := range lines {
			wantRead(t, "whole", s, []api.Field{f}, api.OK)
			for at := 1; at < len(s); at++ {
				wantFault(t, "cut", s[:at], api.ErrShort)
				wantFault(t, "cut, behind others", "\x82\x41\x02/a"+s[:at], api.ErrShort)
			}
		}
	}
}

// TestCutWrong is promise 14.2: what is wrong with a field is not told, if its line is cut.
func TestCutWrong(t *testing.T) {
	for _, f := range wrongFields() {
		s := both(f)
		wantFault(t, "whole", s, fault(f))
		for at := 1; at < len(s); at++ {
			wantFault(t, "cut", s[:at], api.ErrShort)
		}
	}
	wantFault(t, "a name that is wrong, and no value", "\x00\x01X", api.ErrShort)
	wantFault(t, "an empty name, and no value", "\x00\x00", api.ErrShort)
	wantFault(t, "a name that is too long, and a cut value", "\x00"+text(strings.Repeat("x", 257))+"\x02a", api.ErrShort)
}

// TestWideCounts is promise 14.2 of counts that are written in more bytes than they need.
func TestWideCounts(t *testing.T) {
	for _, f := range []api.Field{{Name: "a", Value: "b"}, {Name: "a"}, {Name: strings.Repeat("a", 64), Value: strings.Repeat("b", 63)}, {Name: strings.Repeat("a", 256), Value: strings.Repeat("b", 256)}} {
		for _, nameSize := range room(len(f.Name)) {
			for _, valueSize := range room(len(f.Value)) {
				s := "\x00" + wide(len(f.Name), nameSize) + f.Name + wide(len(f.Value), valueSize) + f.Value
				wantRead(t, "both", s, []api.Field{f}, api.OK)
				wantRead(t, "both, among others", "\x93"+s+"\x80", []api.Field{entries[19], f, entries[0]}, api.OK)
				for at := 1; at < len(s); at++ {
					wantFault(t, "both, cut", s[:at], api.ErrShort)
				}
			}
		}
		for i, entry := range entries {
			for _, size := range room(len(f.Value)) {
				s := string([]byte{byte(0x40 + i)}) + wide(len(f.Value), size) + f.Value
				wantRead(t, "a name", s+"\x82", []api.Field{{Name: entry.Name, Value: f.Value}, entries[2]}, api.OK)
			}
		}
	}
}

// TestGreatCounts is promise 14.2 of counts that are greater than what follows.
func TestGreatCounts(t *testing.T) {
	counts := []string{wide(256, 2), wide(257, 2), wide(1<<14-1, 2), wide(1<<30-1, 4), wide(1<<31, 8), wide(1<<32, 8), wide(1<<62-1, 8)}
	for _, count := range counts {
		for _, follow := range []string{"", "a", "a\x01b", strings.Repeat("a", 255)} {
			wantFault(t, "of a name", "\x00"+count+follow, api.ErrShort)
			wantFault(t, "of a value", "\x00\x01a"+count+follow, api.ErrShort)
			wantFault(t, "of a wrong name's value", "\x00\x01X"+count+follow, api.ErrShort)
			wantFault(t, "of an entry's value", "\x41"+count+follow, api.ErrShort)
			wantFault(t, "behind others", "\x82\x83\x41"+count+follow, api.ErrShort)
		}
	}
	for size := 1; size < 64; size++ {
		one := wide(size, 1)
		wantFault(t, "one more than there is", "\x41"+one+strings.Repeat("a", size-1), api.ErrShort)
		wantRead(t, "all that there is", "\x41"+one+strings.Repeat("a", size), []api.Field{{Name: ":path", Value: strings.Repeat("a", size)}}, api.OK)
	}
}

// TestNotShortest is promise 14.2: a line need not be the shortest; and 14.3: it gets no longer.
func TestNotShortest(t *testing.T) {
	for i, entry := range entries {
		for _, s := range []string{whole(i), named(i, entry.Value), both(entry)} {
			wantRead(t, "an entry", s, []api.Field{entry}, api.OK)
			if l, _ := fields.Read(s); len(l) == 1 {
				wantWrite(t, "an entry again", l, whole(i), api.OK)
			}
		}
		other := api.Field{Name: entry.Name, Value: "other"}
		wantRead(t, "a name", named(i, "other"), []api.Field{other}, api.OK)
		wantRead(t, "a name", both(other), []api.Field{other}, api.OK)
		for j, same := range entries {
			if same.Name == entry.Name {
				wantRead(t, "an entry by another's name", named(j, entry.Value), []api.Field{entry}, api.OK)
			}
		}
	}
	l, e := fields.Read("\x43\x07CONNECT\x4e\x03200\x49\x03201")
	if e != api.OK {
		t.Fatalf("Read is %d", e)
	}
	wantWrite(t, "by the first of the name", l, "\x82\x88\x48\x03201", api.OK)
}

// TestSeventeenth is promise 14.2 of a line behind sixteen: its kind and its end are asked first, then that it is too many, then its field.
func TestSeventeenth(t *testing.T) {
	long := strings.Repeat("x", 257)
	for _, f := range []api.Field{entries[2], {Name: ":path", Value: "/a"}, {Name: "x", Value: "y"}} {
		full := slices.Repeat([]api.Field{f}, 16)
		s := section(full...)
		wantRead(t, "sixteen", s, full, api.OK)
		for _, last := range rightFields() {
			wantFault(t, "right", s+line(last), api.ErrLong)
		}
		for _, last := range wrongFields() {
			wantFault(t, "wrong", s+both(last), api.ErrLong)
			if cut := both(last); len(cut) > 1 {
				wantFault(t, "wrong, and cut", s+cut[:len(cut)-1], api.ErrShort)
			}
		}
		for _, last := range []string{"\x00\x01X\x00", "\x00\x00\x00", "\x41\x01\x1f", "\x41" + text(long)} {
			wantFault(t, "wrong", s+last, api.ErrLong)
			wantFault(t, "wrong, ahead of no kind", s+last+"\x94", api.ErrLong)
		}
		for _, last := range []string{"\x00", "\x00\x01", "\x00\x01a", "\x00\x01a\x01", "\x41", "\x53\x02a", "\x40\x40", "\x00\x01X"} {
			wantFault(t, "cut", s+last, api.ErrShort)
		}
		for _, last := range []string{"\x01", "\x3f", "\x54", "\x7f", "\x94", "\xc1", "\xff"} {
			wantFault(t, "of no kind", s+last, api.ErrKind)
			wantFault(t, "of no kind, behind the 17th", s+"\x82"+last, api.ErrLong)
		}
		wantFault(t, "cut, behind the 17th", s+"\x82\x41", api.ErrLong)
		// What is wrong with one of the sixteen is told ahead of the 17th.
		wantFault(t, "the 16th wrong", s[len(line(f)):]+"\x00\x01X\x00\x82", api.ErrField)
		wantFault(t, "the 16th too long", s[len(line(f)):]+"\x41"+text(long)+"\x82", api.ErrLong)
		wantFault(t, "the first wrong", "\x00\x01X\x00"+s, api.ErrField)
		wantFault(t, "the first wrong, the 17th of no kind", "\x00\x01X\x00"+s[len(line(f)):]+"\x94", api.ErrField)
	}
}

// TestReadChecks is promise 14.2 of lines whose field is not right: ahead of others, behind them and among them.
func TestReadChecks(t *testing.T) {
	good := ordinary()
	for _, f := range wrongFields() {
		want := fault(f)
		lines := []string{both(f), "\x00" + wide(len(f.Name), 8) + f.Name + wide(len(f.Value), 8) + f.Value}
		if f.Name == ":path" {
			lines = append(lines, named(1, f.Value))
		}
		for _, s := range lines {
			for i := range len(good) + 1 {
				wantFault(t, "behind good ones", section(good[:i]...)+s, want)
				wantFault(t, "among good ones", section(good[:i]...)+s+section(good[i:]...), want)
			}
			wantFault(t, "ahead of no kind", s+"\x94", want)
			wantFault(t, "ahead of one that is cut", s+"\x41", want)
			wantFault(t, "behind no kind", "\x94"+s, api.ErrKind)
			for _, other := range wrongFields() {
				wantFault(t, "two that are wrong", s+both(other), want)
			}
		}
	}
	for i := range entries {
		name := string([]byte{byte(0x40 + i)})
		wantFault(t, "an entry's name, with a wrong value", name+"\x01\x1f", api.ErrField)
		wantFault(t, "an entry's name, with a wrong value", name+"\x01\x7f", api.ErrField)
		wantFault(t, "an entry's name, with a long value", name+text(strings.Repeat("\xff", 257)), api.ErrLong)
	}
}

// TestReadBytes is promise 14.2 of each byte in names and in values.
func TestReadBytes(t *testing.T) {
	for b := range 256 {
		one := string([]byte{byte(b)})
		wantSame(t, "a name", "\x00\x01"+one+"\x01v")
		wantSame(t, "in a name", "\x00\x03a"+one+"b\x01v")
		wantSame(t, "a value", "\x00\x01n\x01"+one)
		wantSame(t, "in a value", "\x00\x01n\x03a"+one+"b")
		wantSame(t, "an entry's value", "\x52\x02a"+one)
		wantSame(t, "a count", "\x41"+one+strings.Repeat("a", 64))
	}
}

// TestReadSizes is promise 14.2 of names and values of no byte, of 256 and of more.
func TestReadSizes(t *testing.T) {
	for _, size := range []int{0, 1, 63, 64, 255, 256, 257, 258, 1 << 16, 1 << 20} {
		long := strings.Repeat("x", size)
		ofName, ofValue := api.OK, api.OK
		if size > 256 {
			ofName, ofValue = api.ErrLong, api.ErrLong
		}
		if size == 0 {
			ofName = api.ErrField
		}
		for _, c := range []struct {
			f    api.Field
			want api.Errno
		}{
			{api.Field{Name: long, Value: "v"}, ofName},
			{api.Field{Name: "n", Value: long}, ofValue},
			{api.Field{Name: ":path", Value: long}, ofValue},
			{api.Field{Name: long, Value: long}, ofName},
		} {
			if c.want == api.OK {
				wantRead(t, "right", both(c.f)+"\x82", []api.Field{c.f, entries[2]}, api.OK)
			} else {
				wantFault(t, "wrong", both(c.f)+"\x82", c.want)
			}
		}
	}
}

// TestNewMemory is promise 14.2 with R4: answers share nothing with one another, nor with what the package keeps.
func TestNewMemory(t *testing.T) {
	s := section(entries[:15]...)
	first, _ := fields.Read(s)
	second, _ := fields.Read(s)
	clear(first)
	_ = append(first, api.Field{Name: "more"})
	if !slices.Equal(second, entries[:15]) {
		t.Error("a change of an answer changes another")
	}
	for i, entry := range entries {
		f, _ := fields.Entry(i)
		f.Name, f.Value = "changed", "changed"
		if again, ok := fields.Entry(i); again != entry || !ok {
			t.Errorf("Entry of %d has changed", i)
		}
	}
	wantRead(t, "once more", s, entries[:15], api.OK)
}

// wantThereAndBack is promise 14.3 of fields: Read of Write is what was written.
func wantThereAndBack(t *testing.T, l []api.Field) {
	t.Helper()
	s, e := fields.Write(l)
	if e != api.OK {
		t.Fatalf("Write of %d fields is %d", len(l), e)
	}
	if back, e := fields.Read(s); !slices.Equal(back, l) || e != api.OK {
		t.Fatalf("Read of Write is %d fields, %d; want %d fields", len(back), e, len(l))
	}
}

// wantNoLonger is promise 14.3 of bytes: Write of Read has no more of them.
func wantNoLonger(t *testing.T, s string) {
	t.Helper()
	l, e := fields.Read(s)
	if e != api.OK {
		return
	}
	again, e := fields.Write(l)
	if e != api.OK || len(again) > len(s) {
		t.Fatalf("Write of Read of %d bytes %x is %d bytes, %d", len(s), short(s), len(again), e)
	}
	if back, e := fields.Read(again); !slices.Equal(back, l) || e != api.OK {
		t.Fatalf("Read of what was written of Read of %x is %d", short(s), e)
	}
}

// TestThereAndBack is promise 14.3 of fields at their edges, alone and in rows.
func TestThereAndBack(t *testing.T) {
	wantThereAndBack(t, nil)
	some := rightFields()
	for i, f := range some {
		wantThereAndBack(t, []api.Field{f})
		wantThereAndBack(t, slices.Repeat([]api.Field{f}, 16))
		wantThereAndBack(t, some[i:min(i+16, len(some))])
		wantNoLonger(t, line(f))
		wantNoLonger(t, both(f))
		wantNoLonger(t, "\x00"+wide(len(f.Name), 8)+f.Name+wide(len(f.Value), 2)+f.Value)
	}
}

// TestEveryShortText is promise 14.2 of every text of up to two bytes, and of longer ones of bytes that matter.
func TestEveryShortText(t *testing.T) {
	for a := range 256 {
		wantSame(t, "one", string([]byte{byte(a)}))
		for b := range 256 {
			wantSame(t, "two", string([]byte{byte(a), byte(b)}))
		}
	}
	const matter = "\x00\x01\x02\x40\x41\x53\x80\x93\x94aX"
	var grow func(s string, more int)
	grow = func(s string, more int) {
		wantSame(t, "longer", s)
		wantNoLonger(t, s)
		if more == 0 {
			return
		}
		for _, b := range []byte(matter) {
			grow(s+string([]byte{b}), more-1)
		}
	}
	grow("", 5)
}

// anyField is a right field, often an entry or one with an entry's name.
func anyField(r *rand.Rand) api.Field {
	entry := entries[r.Intn(len(entries))]
	value := make([]byte, r.Intn(70))
	for i := range value {
		value[i] = byte(0x20 + r.Intn(0x5f))
	}
	switch r.Intn(4) {
	case 0:
		return entry
	case 1:
		return api.Field{Name: entry.Name, Value: string(value)}
	case 2:
		return api.Field{Name: entry.Name + "-" + entry.Name, Value: entry.Value}
	}
	const letters = "abcdefghijklmnopqrstuvwxyz0123456789-:"
	name := make([]byte, 1+r.Intn(70))
	for i := range name {
		name[i] = letters[r.Intn(len(letters))]
	}
	return api.Field{Name: string(name), Value: string(value)}
}

// anyLine is one of the lines that a right field has.
func anyLine(r *rand.Rand, f api.Field) string {
	if r.Intn(2) == 0 {
		return line(f)
	}
	counted := func(s string) string {
		sizes := room(len(s))
		return wide(len(s), sizes[r.Intn(len(sizes))]) + s
	}
	return "\x00" + counted(f.Name) + counted(f.Value)
}

// TestRandomRows is promises 14.1 to 14.3 of random rows of fields, whole and with bytes changed, cut out or put in.
func TestRandomRows(t *testing.T) {
	r := rand.New(rand.NewSource(14))
	for range 6000 {
		l := make([]api.Field, r.Intn(17))
		var out strings.Builder
		for i := range l {
			l[i] = anyField(r)
			out.WriteString(anyLine(r, l[i]))
		}
		wantRight(t, "random", l...)
		wantThereAndBack(t, l)
		wantRead(t, "random", out.String(), l, api.OK)
		wantNoLonger(t, out.String())
		b := []byte(out.String())
		for range 4 {
			switch at := r.Intn(len(b) + 1); {
			case at == len(b):
				b = append(b, byte(r.Intn(256)))
			case r.Intn(2) == 0:
				b[at] = byte(r.Intn(256))
			default:
				b = slices.Delete(b, at, at+1)
			}
			wantSame(t, "changed", string(b))
			wantNoLonger(t, string(b))
		}
	}
}

// FuzzRead is promises 14.2 and 14.3 of any bytes.
func FuzzRead(f *testing.F) {
	for _, one := range rightFields() {
		f.Add(line(one))
		f.Add(both(one))
	}
	for _, one := range wrongFields() {
		f.Add(both(one))
	}
	f.Add(section(ordinary()...))
	f.Add(strings.Repeat("\x82", 17))
	f.Add("\x41" + wide(1<<62-1, 8))
	f.Fuzz(func(t *testing.T, s string) {
		wantSame(t, "fuzzed", s)
		wantNoLonger(t, s)
	})
}

// FuzzFields is promises 14.1 to 14.3 of any two fields, in a row of any count.
func FuzzFields(f *testing.F) {
	for _, one := range append(rightFields(), wrongFields()...) {
		f.Add(one.Name, one.Value, ":path", "/a", 3)
	}
	f.Fuzz(func(t *testing.T, name, value, other, otherValue string, count int) {
		one, two := api.Field{Name: name, Value: value}, api.Field{Name: other, Value: otherValue}
		l := append([]api.Field{one}, slices.Repeat([]api.Field{two}, min(max(count, 0), 20))...)
		if e := checked(l); e != api.OK {
			wantWrong(t, "fuzzed", e, l...)
		} else {
			wantRight(t, "fuzzed", l...)
			wantThereAndBack(t, l)
		}
		if v, ok := fields.Get([]api.Field{one, two}, name); ok != (name != other) || ok && v != value || !ok && v != "" {
			t.Errorf("Get of %q is %q, %v", name, v, ok)
		}
	})
}
