package fields_test

import (
	"math"
	"slices"
	"strings"
	"testing"

	"vizard/api"
	"vizard/fields"
)

// TestExamples is promises 14.1 and 14.2 at the chapter's examples.
func TestExamples(t *testing.T) {
	for _, c := range []struct {
		f api.Field
		s string
	}{
		{api.Field{Name: ":method", Value: "CONNECT"}, "\x82"},
		{api.Field{Name: ":path", Value: "/a"}, "\x41\x02\x2f\x61"},
		{api.Field{Name: "x", Value: "y"}, "\x00\x01\x78\x01\x79"},
	} {
		wantWrite(t, "written", []api.Field{c.f}, c.s, api.OK)
		wantRead(t, "read", c.s, []api.Field{c.f}, api.OK)
	}
	wantFault(t, "no such entry", "\x94", api.ErrKind)
	wantFault(t, "no kind", "\xc1", api.ErrKind)
	wantFault(t, "cut", "\x41", api.ErrShort)
	wantWrong(t, "a capital letter", api.ErrField, api.Field{Name: "X"})
}

// TestCounts is promises 14.1 and 14.2 of no field, of 16 and of more, with fields of all forms.
func TestCounts(t *testing.T) {
	for _, empty := range [][]api.Field{nil, {}, make([]api.Field, 0, 4), wrongFields()[:0]} {
		wantWrite(t, "none", empty, "", api.OK)
	}
	wantRead(t, "none", "", nil, api.OK)
	for _, f := range ordinary() {
		for _, count := range []int{1, 2, 15, 16} {
			l := slices.Repeat([]api.Field{f}, count)
			wantRight(t, "not too many", l...)
			wantRead(t, "not too many", section(l...), l, api.OK)
		}
		for _, count := range []int{17, 18, 32, 1000} {
			l := slices.Repeat([]api.Field{f}, count)
			wantWrong(t, "too many", api.ErrLong, l...)
			wantFault(t, "too many", section(l...), api.ErrLong)
		}
	}
}

// TestTooManyWithWrong is promise 14.1: that there are too many is told ahead of what is wrong with one.
func TestTooManyWithWrong(t *testing.T) {
	for _, wrong := range wrongFields() {
		for _, count := range []int{17, 18, 100} {
			for _, at := range []int{0, 1, 15, 16, count - 1} {
				l := slices.Repeat([]api.Field{{Name: "a"}}, count)
				l[at] = wrong
				wantWrong(t, "too many, one is wrong", api.ErrLong, l...)
			}
			wantWrong(t, "too many, all are wrong", api.ErrLong, slices.Repeat([]api.Field{wrong}, count)...)
		}
		for at := range 16 {
			l := slices.Repeat([]api.Field{{Name: "a"}}, 16)
			l[at] = wrong
			wantWrong(t, "one of 16 is wrong", fault(wrong), l...)
		}
	}
}

// TestNameSizes is promise 14.1 of names of no byte, of 256 and of more, that are right otherwise, and that are not.
func TestNameSizes(t *testing.T) {
	for _, value := range []string{"", "v", strings.Repeat("v", 256)} {
		for _, size := range []int{1, 2, 63, 64, 255, 256} {
			name := strings.Repeat("n", size)
			wantRight(t, "right", api.Field{Name: name, Value: value})
			wantWrong(t, "wrong at its end", api.ErrField, api.Field{Name: name[1:] + "N", Value: value})
			wantWrong(t, "wrong at its front", api.ErrField, api.Field{Name: "N" + name[1:], Value: value})
		}
		for _, size := range []int{257, 258, 512, 1 << 16, 1<<16 + 1} {
			name := strings.Repeat("n", size)
			wantWrong(t, "too long", api.ErrLong, api.Field{Name: name, Value: value})
			wantWrong(t, "too long, and wrong at its end", api.ErrLong, api.Field{Name: name[1:] + "N", Value: value})
			wantWrong(t, "too long, and wrong at its front", api.ErrLong, api.Field{Name: "N" + name[1:], Value: value})
		}
		wantWrong(t, "empty", api.ErrField, api.Field{Value: value})
	}
}

// TestValueSizes is promise 14.1 of values of no byte, of 256 and of more, that are right otherwise, and that are not.
func TestValueSizes(t *testing.T) {
	for _, name := range []string{"n", ":path", "user-agent", strings.Repeat("n", 256)} {
		wantRight(t, "empty", api.Field{Name: name})
		for _, size := range []int{1, 2, 63, 64, 255, 256} {
			value := strings.Repeat("V", size)
			wantRight(t, "right", api.Field{Name: name, Value: value})
			wantWrong(t, "wrong at its end", api.ErrField, api.Field{Name: name, Value: value[1:] + "\x7f"})
			wantWrong(t, "wrong at its front", api.ErrField, api.Field{Name: name, Value: "\x1f" + value[1:]})
		}
		for _, size := range []int{257, 258, 512, 1 << 16, 1<<16 + 1} {
			value := strings.Repeat("V", size)
			wantWrong(t, "too long", api.ErrLong, api.Field{Name: name, Value: value})
			wantWrong(t, "too long, and wrong at its end", api.ErrLong, api.Field{Name: name, Value: value[1:] + "\x7f"})
			wantWrong(t, "too long, and wrong at its front", api.ErrLong, api.Field{Name: name, Value: "\x1f" + value[1:]})
		}
	}
}

// TestEachByte is promise 14.1 of each byte in names and in values, alone, ahead of others, among them and behind them.
func TestEachByte(t *testing.T) {
	names, values := 0, 0
	for b := range 256 {
		one := string([]byte{byte(b)})
		for _, s := range []string{one, one + "a", "a" + one, "a" + one + "b", one + one} {
			name := api.Field{Name: s, Value: "v"}
			if strings.Contains("abcdefghijklmnopqrstuvwxyz0123456789-:", one) {
				wantRight(t, "a name", name)
				names++
			} else {
				wantWrong(t, "a name", api.ErrField, name)
			}
			value := api.Field{Name: "n", Value: s}
			if b >= 0x20 && b <= 0x7e {
				wantRight(t, "a value", value)
				values++
			} else {
				wantWrong(t, "a value", api.ErrField, value)
			}
		}
	}
	if names != 38*5 || values != 95*5 {
		t.Errorf("%d names and %d values are right", names, values)
	}
}

// TestValueEdges is promise 14.1 right at the ends of the bytes that a value may have.
func TestValueEdges(t *testing.T) {
	for _, name := range []string{"n", ":path", "proxy-status"} {
		wantWrong(t, "1F", api.ErrField, api.Field{Name: name, Value: "\x1f"})
		wantRight(t, "20", api.Field{Name: name, Value: "\x20"})
		wantRight(t, "7E", api.Field{Name: name, Value: "\x7e"})
		wantWrong(t, "7F", api.ErrField, api.Field{Name: name, Value: "\x7f"})
	}
}

// TestRunes is promise 14.1 of letters and digits that are not of one byte, and of bytes that are no letters at all.
func TestRunes(t *testing.T) {
	for _, s := range []string{"\u00e9", "\u00df", "\uff41", "\uff11", "\u0663", "\u017f", "\u212a", "\u65e5\u672c", "\u2013", "\xc3", "\xe2\x82", "\xff\xfe"} {
		for _, around := range []string{s, "a" + s, s + "a", "a" + s + "b"} {
			wantWrong(t, "a name", api.ErrField, api.Field{Name: around, Value: "v"})
			wantWrong(t, "a value", api.ErrField, api.Field{Name: "n", Value: around})
		}
	}
	// Bytes are counted, not letters.
	wantWrong(t, "129 letters of two bytes", api.ErrLong, api.Field{Name: "n", Value: strings.Repeat("\u00e9", 129)})
	wantWrong(t, "128 letters of two bytes", api.ErrField, api.Field{Name: "n", Value: strings.Repeat("\u00e9", 128)})
}

// TestOrderOfErrors is promise 14.1: of one field ErrLong comes first, of two fields the first one's.
func TestOrderOfErrors(t *testing.T) {
	long := strings.Repeat("x", 257)
	wantWrong(t, "a wrong name and a long value", api.ErrLong, api.Field{Name: "X", Value: long})
	wantWrong(t, "an empty name and a long value", api.ErrLong, api.Field{Value: long})
	wantWrong(t, "a long name and a wrong value", api.ErrLong, api.Field{Name: long, Value: "\x00"})
	wantWrong(t, "a wrong name, then a long value", api.ErrField, api.Field{Name: "X"}, api.Field{Name: "a", Value: long})
	wantWrong(t, "a long value, then a wrong name", api.ErrLong, api.Field{Name: "a", Value: long}, api.Field{Name: "X"})
	wantWrong(t, "a wrong value, then a long name", api.ErrField, api.Field{Name: "a", Value: "\x00"}, api.Field{Name: long})
	wantWrong(t, "a long name, then a wrong value", api.ErrLong, api.Field{Name: long}, api.Field{Name: "a", Value: "\x00"})
	some := append(wrongFields(), api.Field{Name: "a"}, api.Field{Name: ":path", Value: "/"}, api.Field{Name: ":path", Value: "/b"})
	for _, a := range some {
		for _, b := range some {
			for _, c := range some {
				l := []api.Field{a, b, c}
				if e := checked(l); e == api.OK {
					wantRight(t, "of three", l...)
				} else {
					wantWrong(t, "of three", e, l...)
				}
			}
		}
	}
}

// TestEntriesWritten is promise 14.1 of each entry whole, and of its name with another value.
func TestEntriesWritten(t *testing.T) {
	for i, entry := range entries {
		wantWrite(t, "whole", []api.Field{entry}, whole(i), api.OK)
		first := slices.IndexFunc(entries, func(other api.Field) bool { return other.Name == entry.Name })
		if !slices.Contains(firstNames, first) {
			t.Fatalf("the first entry of %s is %d", entry.Name, first)
		}
		for _, value := range []string{"other", entry.Value + "x", " " + entry.Value, entry.Value + " ", "x" + entry.Value, "~", strings.Repeat("v", 63), strings.Repeat("v", 64), strings.Repeat("v", 256)} {
			wantWrite(t, "another value", []api.Field{{Name: entry.Name, Value: value}}, named(first, value), api.OK)
		}
		for _, name := range []string{"x" + entry.Name, entry.Name + "x", entry.Name + "-", entry.Name[1:], entry.Name[:len(entry.Name)-1]} {
			f := api.Field{Name: name, Value: entry.Value}
			wantWrite(t, "another name", []api.Field{f}, both(f), api.OK)
		}
		if entry.Value == "" {
			wantWrite(t, "a value where there is none", []api.Field{{Name: entry.Name, Value: "v"}}, named(i, "v"), api.OK)
			continue
		}
		wantWrite(t, "no value where there is one", []api.Field{{Name: entry.Name}}, named(first, ""), api.OK)
		small := strings.ToLower(entry.Value)
		if small != entry.Value {
			wantWrite(t, "in small letters", []api.Field{{Name: entry.Name, Value: small}}, named(first, small), api.OK)
		}
	}
}

// TestManyEntriesOfAName is promise 14.1 of names with two and more entries: each that is it, and the first of the name.
func TestManyEntriesOfAName(t *testing.T) {
	for _, c := range []struct {
		f api.Field
		s string
	}{
		{api.Field{Name: ":method", Value: "GET"}, "\x83"},
		{api.Field{Name: ":method", Value: "PUT"}, "\x42\x03PUT"},
		{api.Field{Name: ":method", Value: "connect"}, "\x42\x07connect"},
		{api.Field{Name: ":scheme", Value: "http"}, "\x85"},
		{api.Field{Name: ":scheme", Value: "ftp"}, "\x44\x03ftp"},
		{api.Field{Name: ":protocol", Value: "connect-ip"}, "\x87"},
		{api.Field{Name: ":protocol", Value: "connect-tcp"}, "\x46\x0bconnect-tcp"},
		{api.Field{Name: ":status", Value: "200"}, "\x88"},
		{api.Field{Name: ":status", Value: "503"}, "\x8e"},
		{api.Field{Name: ":status", Value: "201"}, "\x48\x03201"},
		{api.Field{Name: ":status"}, "\x48\x00"},
		{api.Field{Name: ":authority"}, "\x80"},
		{api.Field{Name: ":authority", Value: "a"}, "\x40\x01a"},
		{api.Field{Name: "accept", Value: "*/*"}, "\x93"},
		{api.Field{Name: "accept"}, "\x53\x00"},
		{api.Field{Name: "connect", Value: ":method"}, "\x00\x07connect\x07:method"},
		{api.Field{Name: "status", Value: "200"}, "\x00\x06status\x03200"},
		{api.Field{Name: "a"}, "\x00\x01a\x00"},
	} {
		wantWrite(t, "by hand", []api.Field{c.f}, c.s, api.OK)
		wantRead(t, "by hand", c.s, []api.Field{c.f}, api.OK)
	}
}

// TestRows is promise 14.1 of more than one field: lines stand in the fields' order, one behind the other, each by itself.
func TestRows(t *testing.T) {
	some := rightFields()
	for i := 0; i < len(some); i += 5 {
		l := some[i:min(i+16, len(some))]
		wantRight(t, "a row", l...)
		back := slices.Clone(l)
		slices.Reverse(back)
		wantRight(t, "the other way round", back...)
	}
	twice := api.Field{Name: "x", Value: "y"}
	wantWrite(t, "one field twice", []api.Field{twice, twice}, "\x00\x01x\x01y\x00\x01x\x01y", api.OK)
	wantWrite(t, "entries", entries[:16], "\x80\x81\x82\x83\x84\x85\x86\x87\x88\x89\x8a\x8b\x8c\x8d\x8e\x8f", api.OK)
	wantWrite(t, "entries", entries[4:], "\x84\x85\x86\x87\x88\x89\x8a\x8b\x8c\x8d\x8e\x8f\x90\x91\x92\x93", api.OK)
}

// TestArgumentsStay is R4 of Check, Write and Get: neither a list nor what lies behind its end is changed.
func TestArgumentsStay(t *testing.T) {
	for _, count := range []int{0, 1, 8, 15, 16, 17} {
		all := append(slices.Repeat(ordinary(), 3), wrongFields()...)
		before := slices.Clone(all)
		l := all[:count]
		fields.Check(l)
		fields.Write(l)
		fields.Get(l, ":path")
		if !slices.Equal(all, before) {
			t.Errorf("a list of %d fields, or what lies behind it, was changed", count)
		}
	}
}

// TestGet is promise 14.2 of names that none, one, two and more fields have.
func TestGet(t *testing.T) {
	ask := func(name string, l []api.Field, of, value string, found bool) {
		t.Helper()
		if v, ok := fields.Get(l, of); v != value || ok != found {
			t.Errorf("%s: Get of %q is %q, %v; want %q, %v", name, of, v, ok, value, found)
		}
	}
	for _, empty := range [][]api.Field{nil, {}, ordinary()[:0]} {
		ask("no fields", empty, "a", "", false)
		ask("no fields", empty, "", "", false)
		ask("no fields", empty, ":method", "", false)
	}
	l := ordinary()
	for _, f := range l {
		ask("one", l, f.Name, f.Value, true)
		ask("two, equal", append(ordinary(), f), f.Name, "", false)
		ask("two, with other values", append(ordinary(), api.Field{Name: f.Name, Value: "other"}), f.Name, "", false)
		ask("two, the first one empty", append([]api.Field{{Name: f.Name}}, l...), f.Name, "", false)
		ask("three", append(ordinary(), f, f), f.Name, "", false)
		ask("four", append(ordinary(), f, f, f), f.Name, "", false)
		ask("another has two", append(ordinary(), api.Field{Name: "other", Value: "1"}, api.Field{Name: "other", Value: "2"}), f.Name, f.Value, true)
		for _, other := range []string{"", f.Name + "x", f.Name[1:], f.Name[:len(f.Name)-1], strings.ToUpper(f.Name), f.Name + "\x00", " " + f.Name} {
			ask("none", l, other, "", false)
		}
	}
	ask("values are no names", l, "CONNECT", "", false)
	ask("entries are not asked", l, ":status", "", false)
	ask("an empty value", []api.Field{{Name: "a"}}, "a", "", true)
	ask("an empty name", []api.Field{{Name: "a", Value: "1"}, {Value: "2"}}, "", "2", true)
	ask("an empty name, twice", []api.Field{{Value: "1"}, {Value: "2"}}, "", "", false)
	ask("a name that is wrong", []api.Field{{Name: "X\xff", Value: "\x00"}}, "X\xff", "\x00", true)
	long := strings.Repeat("x", 1000)
	ask("a name that is too long", []api.Field{{Name: long, Value: long + "v"}}, long, long+"v", true)
	many := append(slices.Repeat([]api.Field{{Name: "a"}}, 999), api.Field{Name: "b", Value: "last"})
	ask("more fields than a section has", many, "b", "last", true)
	ask("more fields than a section has", many, "a", "", false)
}

// TestEntry is promise 14.2 of each entry, and of numbers that have none.
func TestEntry(t *testing.T) {
	for i, entry := range entries {
		if f, ok := fields.Entry(i); f != entry || !ok {
			t.Errorf("Entry of %d is %v, %v", i, f, ok)
		}
	}
	for _, i := range []int{math.MinInt64, math.MinInt64 + 1, math.MinInt32, -256, -20, -2, -1, 20, 21, 32, 64, 128, 255, 256, 256 + 2, 1<<31 - 1, 1 << 31, 1 << 32, 1<<32 + 2, 1<<62 + 2, math.MaxInt64 - 1, math.MaxInt64} {
		if f, ok := fields.Entry(i); f != (api.Field{}) || ok {
			t.Errorf("Entry of %d is %v, %v", i, f, ok)
		}
	}
}
