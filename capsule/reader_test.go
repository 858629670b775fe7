package capsule_test

import (
	"strings"
	"testing"

	"vizard/api"
	"vizard/capsule"
)

// TestExamples is the chapter's examples of a reader.
func TestExamples(t *testing.T) {
	wantWhole(t, "Datagram", "\x00\x02\x61\x62", capsule.Capsule{Kind: capsule.Datagram, Data: "ab"})
	r := capsule.New()
	wantFeed(t, "in part", r, "\x01", api.OK)
	wantFeed(t, "whole", r, "\x00", api.OK, capsule.Capsule{Kind: capsule.Assign})
}

// TestNames is the chapter's words of the kinds.
func TestNames(t *testing.T) {
	if capsule.Datagram != 0 || capsule.Assign != 1 || capsule.Request != 2 || capsule.Routes != 3 {
		t.Error("a kind has another number")
	}
}

// TestNothing is promise 16.1 of a new reader, and of Feed of nothing.
func TestNothing(t *testing.T) {
	r := capsule.New()
	if !r.End() {
		t.Error("End at once is false")
	}
	for range 3 {
		wantFeed(t, "nothing at first", r, "", api.OK)
		if !r.End() {
			t.Error("End behind nothing is false")
		}
	}
	for _, step := range []struct {
		s   string
		end bool
		l   []capsule.Capsule
	}{
		{"\x40", false, nil},
		{"\x01", false, nil},
		{"\x80\x00", false, nil},
		{"\x00\x03", false, nil},
		{"ab", false, nil},
		{"c", true, []capsule.Capsule{{Kind: 1, Data: "abc"}}},
		{"\x02", false, nil},
		{"\x00", true, []capsule.Capsule{{Kind: 2}}},
	} {
		wantFeed(t, "something", r, step.s, api.OK, step.l...)
		wantFeed(t, "nothing behind it", r, "", api.OK)
		if r.End() != step.end {
			t.Errorf("End behind %x and nothing is %v", step.s, !step.end)
		}
		wantFeed(t, "nothing once more", r, "", api.OK)
	}
}

// TestKinds is promise 16.1 of all kinds: strange ones are told, too.
func TestKinds(t *testing.T) {
	for _, kind := range kinds {
		wantWhole(t, "empty", bytesOf(kind, ""), capsuleOf(kind, ""))
		wantWhole(t, "with data", bytesOf(kind, "abc"), capsuleOf(kind, "abc"))
		for _, other := range kinds {
			wantWhole(t, "two", bytesOf(kind, "ab")+bytesOf(other, ""), capsuleOf(kind, "ab"), capsuleOf(other, ""))
			wantGreat(t, "a great one behind it", bytesOf(kind, "ab")+head(other, 4097), capsuleOf(kind, "ab"))
		}
	}
}

// TestSizes is promise 16.1 of how many bytes a capsule may have.
func TestSizes(t *testing.T) {
	for _, kind := range []int64{0, 1, 2, 3, 9, 64, greatest} {
		for _, size := range []int{0, 1, 2, 62, 63, 64, 255, 256, 4094, 4095, 4096} {
			body := strings.Repeat("x", size)
			wantWhole(t, "so many bytes", bytesOf(kind, body), capsuleOf(kind, body))
			wantWhole(t, "so many bytes, and more behind", bytesOf(kind, body)+bytesOf(2, "y"), capsuleOf(kind, body), capsuleOf(2, "y"))
			wantWhole(t, "so many bytes, twice", strings.Repeat(bytesOf(kind, body), 2), capsuleOf(kind, body), capsuleOf(kind, body))
			if size > 0 {
				wantStream(t, "a byte less than that", bytesOf(kind, body)[:len(bytesOf(kind, body))-1], api.OK, false)
			}
		}
		for _, size := range []int64{4097, 4098, 8191, 8192, 1<<14 - 1, 1 << 14, 1<<16 - 1, 1 << 16, 1<<16 + 1, 1<<30 - 1, 1 << 30, 1<<31 - 1, 1 << 31, 1 << 32, 1<<32 + 1, 1<<32 + 4096, 1<<61 + 1, greatest - 1, greatest} {
			wantGreat(t, "great", head(kind, size))
			wantGreat(t, "great, and some of its data", head(kind, size)+"abc")
			wantGreat(t, "great, and what would be a capsule", head(kind, size)+bytesOf(0, "abc"))
			wantGreat(t, "great, behind others", bytesOf(0, "ab")+bytesOf(kind, "")+head(kind, size)+"abc", capsuleOf(0, "ab"), capsuleOf(kind, ""))
		}
		for _, size := range []int{4097, 5000, 1 << 14, 1 << 16} {
			wantGreat(t, "great, and all of its data", bytesOf(kind, strings.Repeat("\x00", size))+bytesOf(0, "ab"))
		}
	}
}

// TestWideNumbers is promise 16.1 of kinds and counts that are written in more bytes than they need.
func TestWideNumbers(t *testing.T) {
	for _, kind := range []int64{0, 1, 3, 63, 64, 1 << 14, greatest} {
		for _, body := range []string{"", "a", strings.Repeat("b", 63), strings.Repeat("c", 64)} {
			for _, k := range room(kind) {
				for _, n := range room(int64(len(body))) {
					s := wide(kind, k) + wide(int64(len(body)), n) + body
					wantWhole(t, "wide", s, capsuleOf(kind, body))
					wantWhole(t, "wide, with others around", bytesOf(5, "")+s+bytesOf(0, "!"), capsuleOf(5, ""), capsuleOf(kind, body), capsuleOf(0, "!"))
				}
			}
		}
		most := strings.Repeat("d", 4096)
		for _, k := range room(kind) {
			for _, n := range room(4096) {
				wantWhole(t, "wide, 4096 bytes", wide(kind, k)+wide(4096, n)+most, capsuleOf(kind, most))
				wantGreat(t, "wide, 4097 bytes", wide(kind, k)+wide(4097, n)+most)
			}
		}
	}
}

// TestAsSoon is promise 16.1: a capsule is told with its last byte, and a great one with the last byte of its number.
func TestAsSoon(t *testing.T) {
	for _, c := range []struct {
		name   string
		before string
		last   string
		e      api.Errno
		l      []capsule.Capsule
	}{
		{"an empty one", "\x01", "\x00", api.OK, []capsule.Capsule{{Kind: 1}}},
		{"one byte", "\x00\x01", "a", api.OK, []capsule.Capsule{{Data: "a"}}},
		{"two bytes", "\x00\x02a", "b", api.OK, []capsule.Capsule{{Data: "ab"}}},
		{"an empty one, written widely", "\x40\x02\xc0\x00\x00\x00\x00\x00\x00", "\x00", api.OK, []capsule.Capsule{{Kind: 2}}},
		{"4097 bytes", "\x00\x50", "\x01", api.ErrLong, nil},
		{"4097 bytes, of a strange kind", "\xff\xff\xff\xff\xff\xff\xff\xff\x50", "\x01", api.ErrLong, nil},
		{"4097 bytes, written widely", "\x00\xc0\x00\x00\x00\x00\x00\x10", "\x01", api.ErrLong, nil},
		{"the greatest number", "\x03\xff\xff\xff\xff\xff\xff\xff", "\xff", api.ErrLong, nil},
		{"a number whose first bytes are great already", "\x03\xff\xff\xff\xff\xff\xff\xff", "\x00", api.ErrLong, nil},
	} {
		for _, pieces := range [][]string{{c.before}, cutBytes(c.before)} {
			r := capsule.New()
			for _, piece := range pieces {
				wantFeed(t, c.name+", too early", r, piece, api.OK)
				if r.End() {
					t.Errorf("%s: End is true within it", c.name)
				}
			}
			wantFeed(t, c.name, r, c.last, c.e, c.l...)
			if r.End() != (c.e == api.OK) {
				t.Errorf("%s: End is %v behind it", c.name, r.End())
			}
		}
	}
}

// TestAheadOfGreat is promise 16.1: capsules ahead of a great one come with ErrLong, in the same Feed, and those that were told are not told again.
func TestAheadOfGreat(t *testing.T) {
	wantFeed(t, "three", capsule.New(), "\x00\x01a\x09\x00\x03\x02bc\x00\x50\x01\x00\x01d", api.ErrLong, capsuleOf(0, "a"), capsuleOf(9, ""), capsuleOf(3, "bc"))
	r := capsule.New()
	wantFeed(t, "the first one, and some of the second one", r, "\x00\x01a\x01\x03b", api.OK, capsuleOf(0, "a"))
	wantFeed(t, "the rest, and a great one", r, "cd\x02\x00\x00\x80\x01\x00\x00efg", api.ErrLong, capsuleOf(1, "bcd"), capsuleOf(2, ""))
	wantFeed(t, "behind it", r, "\x00\x01d", api.ErrLong)
}

// TestBehindGreat is promise 16.1: behind ErrLong every Feed answers none and ErrLong, and End is false.
func TestBehindGreat(t *testing.T) {
	for _, s := range []string{"\x00\x50\x01", "\x00\x01a\x01\x50\x01", "\x3f\xff\xff\xff\xff\xff\xff\xff\xff", "\x00\x50\x01abc", bytesOf(0, strings.Repeat("\x00", 4097))} {
		r := capsule.New()
		if _, e := r.Feed(s); e != api.ErrLong || r.End() {
			t.Errorf("Feed of %x is %d, End %v", short(s), e, r.End())
		}
		for _, more := range []string{"", "\x00", "\x00\x00", "\x00\x01a", "\x01\x00\x02\x00", "\x00\x50\x01", "\xff", strings.Repeat("\x00", 5000), bytesOf(1, strings.Repeat("x", 5000)), ""} {
			wantFeed(t, "behind a great one", r, more, api.ErrLong)
			if r.End() {
				t.Errorf("End behind %x and %x is true", short(s), short(more))
			}
		}
	}
}

// TestEnd is promise 16.1 of End.
func TestEnd(t *testing.T) {
	for _, c := range []struct {
		s    string
		want bool
	}{
		{"", true},
		{"\x00", false},
		{"\x40", false},
		{"\x40\x00", false},
		{"\xc0\x00\x00\x00\x00\x00\x00", false},
		{"\xc0\x00\x00\x00\x00\x00\x00\x00", false},
		{"\xc0\x00\x00\x00\x00\x00\x00\x00\x00", true},
		{"\x00\x00", true},
		{"\x00\x40", false},
		{"\x00\x40\x00", true},
		{"\x00\x80\x00\x00", false},
		{"\x00\x80\x00\x00\x00", true},
		{"\x00\x01", false},
		{"\x00\x01a", true},
		{"\x00\x02a", false},
		{"\x00\x02ab", true},
		{"\x00\x02ab\x00", false},
		{"\x00\x02ab\x00\x00", true},
		{"\x00\x02ab\x21", false},
		{"\x00\x02ab\x21\x01", false},
		{"\x00\x02ab\x21\x01x", true},
		{"\x00\x50\x00", false},
		{"\x00\x50", false},
		{"\x00\x50\x01", false},
		{"\x00\x01a\x00\x50\x01", false},
	} {
		for _, pieces := range [][]string{{c.s}, cutBytes(c.s), {"", c.s, ""}} {
			r := capsule.New()
			for _, piece := range pieces {
				r.Feed(piece)
			}
			for range 2 {
				if got := r.End(); got != c.want {
					t.Errorf("End behind %x is %v, want %v", c.s, got, c.want)
				}
			}
		}
	}
}

// TestWrite is promise 16.1 of a capsule's bytes.
func TestWrite(t *testing.T) {
	for _, c := range []struct {
		kind int64
		data string
		want string
	}{
		{0, "", "\x00\x00"},
		{0, "ab", "\x00\x02ab"},
		{1, "", "\x01\x00"},
		{2, "\x00", "\x02\x01\x00"},
		{3, "a", "\x03\x01a"},
		{63, "", "\x3f\x00"},
		{64, "", "\x40\x40\x00"},
		{greatest, "", "\xff\xff\xff\xff\xff\xff\xff\xff\x00"},
		{greatest, "a", "\xff\xff\xff\xff\xff\xff\xff\xff\x01a"},
		{0, strings.Repeat("x", 63), "\x00\x3f" + strings.Repeat("x", 63)},
		{0, strings.Repeat("x", 64), "\x00\x40\x40" + strings.Repeat("x", 64)},
		{0, strings.Repeat("x", 4096), "\x00\x50\x00" + strings.Repeat("x", 4096)},
		{0, strings.Repeat("x", 4097), "\x00\x50\x01" + strings.Repeat("x", 4097)},
		{0, strings.Repeat("x", 1<<14), "\x00\x80\x00\x40\x00" + strings.Repeat("x", 1<<14)},
	} {
		if s := capsule.Write(capsuleOf(c.kind, c.data)); s != c.want || s != bytesOf(c.kind, c.data) {
			t.Errorf("Write of %d and %d bytes is %x, want %x", c.kind, len(c.data), short(s), short(c.want))
		}
	}
	for _, kind := range noNumbers {
		for _, data := range []string{"", "a", strings.Repeat("x", 5000)} {
			if s := capsule.Write(capsuleOf(kind, data)); s != "" {
				t.Errorf("Write of %d is %x", kind, short(s))
			}
		}
	}
}

// TestCapsulesThereAndBack is promise 16.4: what is written is read as it was.
func TestCapsulesThereAndBack(t *testing.T) {
	var all strings.Builder
	var l []capsule.Capsule
	for _, kind := range kinds {
		for _, size := range []int{0, 1, 63, 64, 4095, 4096} {
			c := capsuleOf(kind, strings.Repeat(string([]byte{byte(kind), 0, 0xff, 0x40}), size)[:size])
			s := capsule.Write(c)
			wantWhole(t, "there and back", s, c)
			all.WriteString(s)
			l = append(l, c)
		}
	}
	r := capsule.New()
	wantFeed(t, "all of them", r, all.String(), api.OK, l...)
	if !r.End() {
		t.Error("End behind all of them is false")
	}
}
