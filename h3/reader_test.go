package h3_test

import (
	"slices"
	"strings"
	"testing"

	"vizard/api"
	"vizard/h3"
)

// TestExamples is the chapter's section 'Examples'.
func TestExamples(t *testing.T) {
	wantStream(t, "Headers", false, "\x01\x02\x82\x84", 0, 0, headers("\x82\x84"))
	wantFault(t, "Data first", false, "\x00\x01\x41", unexpected)
	wantStream(t, "a strange frame first", false, "\x21\x02\x41\x41\x01\x00", 0, 0, headers(""))
	wantStream(t, "Settings", true, "\x00\x04\x02\x06\x07", 0, 0, settings("\x06\x07"))
	wantFault(t, "Goaway first", true, "\x00\x07\x01\x00", missing)
}

// TestOrdinary is promise 15.1 of streams as they should be.
func TestOrdinary(t *testing.T) {
	request := frame(1, "abc") + frame(0, "hello") + frame(0x21, "pad") + frame(0, "") + frame(0, ", you")
	wantStream(t, "a request", false, request, 0, 0, headers("abc"), data("hello, you"))
	control := "\x00" + frame(4, "\x06\x40\x80\x33\x01") + frame(7, "\x08") + frame(0x21, "") + frame(7, "\x04")
	wantStream(t, "a control stream", true, control, 0, 0, settings("\x06\x40\x80\x33\x01"), goaway("\x08"), goaway("\x04"))
}

// TestNothing is promises 15.1 and 15.2 of no byte at all.
func TestNothing(t *testing.T) {
	wantStream(t, "a request", false, "", 0, noMessage)
	wantStream(t, "a control stream", true, "", 0, wrongFrame)
	for _, control := range []bool{false, true} {
		wantPieces(t, "nothing, and nothing", control, "", "", "")
	}
	wantPieces(t, "nothing between a request's bytes", false, "", "\x01", "", "\x02", "", "a", "", "b", "", "\x00", "", "\x01", "", "c", "")
	wantPieces(t, "nothing between a control stream's bytes", true, "", "\x00", "", "\x04", "", "\x02", "", "\x06", "", "\x07", "", "\x07", "", "\x01", "", "\x00", "")
}

// TestFirstByte is promise 15.1 of a control stream's first byte, alone and with more behind it.
func TestFirstByte(t *testing.T) {
	wantStream(t, "0", true, "\x00", 0, 0)
	wantStream(t, "0, and more", true, "\x00\x04\x00", 0, 0, settings(""))
	for first := 1; first < 256; first++ {
		s := string([]byte{byte(first)})
		for _, more := range []string{"", "\x00", "\x04\x00", "\x00\x04\x00", "\x01\x00", "\x07\x01\x00", strings.Repeat("\x00", 8)} {
			wantFault(t, "not 0", true, s+more, unexpected)
		}
	}
	// It is a byte, not a number: 0 in more bytes is not 0.
	for _, size := range []int{2, 4, 8} {
		wantFault(t, "0 in more bytes", true, wide(0, size)+frame(4, ""), unexpected)
	}
	// A request has no such byte.
	wantStream(t, "of a request", false, "\x00", 0, wrongFrame)
	wantFault(t, "of a request, and more", false, "\x00"+frame(4, ""), unexpected)
}

// TestRequestKinds is promise 15.1 of each kind in a request, as the first frame and as a later one.
func TestRequestKinds(t *testing.T) {
	for _, body := range []string{"", "\x08", "abc"} {
		for _, before := range []string{"", frame(0x21, "xy"), frame(2, "") + frame(greatest, "z")} {
			wantFault(t, "Data first", false, before+frame(0, body), unexpected)
			wantStream(t, "Headers first", false, before+frame(1, body), 0, 0, headers(body))
			wantFault(t, "Settings first", false, before+frame(4, body), unexpected)
			wantFault(t, "Goaway first", false, before+frame(7, body), unexpected)
			s := frame(1, "h") + before
			wantStream(t, "Data later", false, s+frame(0, body)+frame(0, "!"), 0, 0, headers("h"), data(body+"!"))
			wantFault(t, "Headers later", false, s+frame(1, body), unexpected, headers("h"))
			wantFault(t, "Settings later", false, s+frame(4, body), unexpected, headers("h"))
			wantFault(t, "Goaway later", false, s+frame(7, body), unexpected, headers("h"))
			s += frame(0, "d") + before
			wantFault(t, "Headers behind Data", false, s+frame(1, body), unexpected, headers("h"), data("d"))
			wantFault(t, "Settings behind Data", false, s+frame(4, body), unexpected, headers("h"), data("d"))
			wantFault(t, "Goaway behind Data", false, s+frame(7, body), unexpected, headers("h"), data("d"))
		}
	}
}

// TestControlKinds is promise 15.1 of each kind in a control stream, as the first frame and as a later one.
func TestControlKinds(t *testing.T) {
	for _, before := range []string{"", frame(0x21, "xy"), frame(2, "") + frame(greatest, "z")} {
		for _, body := range []string{"", "\x08", "abc"} {
			wantFault(t, "Data first", true, "\x00"+before+frame(0, body), unexpected)
			wantFault(t, "Headers first", true, "\x00"+before+frame(1, body), unexpected)
			wantFault(t, "Goaway first", true, "\x00"+before+frame(7, body), missing)
			s := "\x00" + before + frame(4, "\x06\x07") + before
			wantFault(t, "Data later", true, s+frame(0, body), unexpected, settings("\x06\x07"))
			wantFault(t, "Headers later", true, s+frame(1, body), unexpected, settings("\x06\x07"))
			wantFault(t, "Settings later", true, s+frame(4, body), unexpected, settings("\x06\x07"))
			s += frame(7, "\x08") + before
			wantFault(t, "Data behind Goaway", true, s+frame(0, body), unexpected, settings("\x06\x07"), goaway("\x08"))
			wantFault(t, "Headers behind Goaway", true, s+frame(1, body), unexpected, settings("\x06\x07"), goaway("\x08"))
			wantFault(t, "Settings behind Goaway", true, s+frame(4, body), unexpected, settings("\x06\x07"), goaway("\x08"))
			wantStream(t, "Goaway behind Goaway", true, s+frame(7, "\x08"), 0, 0, settings("\x06\x07"), goaway("\x08"), goaway("\x08"))
		}
		wantStream(t, "Settings first", true, "\x00"+before+frame(4, "\x06\x07"), 0, 0, settings("\x06\x07"))
		wantStream(t, "no frame but strange ones", true, "\x00"+before, 0, 0)
	}
}

// TestStrange is promise 15.1 of frames that are passed over, first, among others and last, with and without data.
func TestStrange(t *testing.T) {
	for _, kind := range strangeKinds {
		for _, body := range []string{"", "\x00", "\x01\x00", strings.Repeat("\x04", 70)} {
			for _, size := range room(kind) {
				strange := wide(kind, size) + put(int64(len(body))) + body
				wantStream(t, "alone in a request", false, strange, 0, noMessage)
				wantStream(t, "in a request", false, strange+frame(1, "h")+strange+frame(0, "d")+strange, 0, 0, headers("h"), data("d"))
				wantStream(t, "alone in a control stream", true, "\x00"+strange, 0, 0)
				wantStream(t, "in a control stream", true, "\x00"+strange+frame(4, "")+strange+frame(7, "\x00")+strange, 0, 0, settings(""), goaway("\x00"))
				wantFault(t, "ahead of Goaway", true, "\x00"+strange+strange+frame(7, "\x00"), missing)
				wantFault(t, "ahead of Data", false, strange+strange+frame(0, ""), unexpected)
			}
		}
		// However long it may be, it is no fault; and Data is passed over within it.
		for _, count := range []int64{4097, 1 << 14, 1 << 31, 1 << 32, greatest} {
			wantStream(t, "long, in a request", false, head(kind, count), 0, wrongFrame)
			wantStream(t, "long, in a request, with data", false, frame(1, "")+head(kind, count)+frame(1, "")+frame(4, ""), 0, wrongFrame, headers(""))
			wantStream(t, "long, in a control stream", true, "\x00"+head(kind, count)+frame(7, "")+"\xff", 0, wrongFrame)
		}
	}
	long := strings.Repeat("\x00\x01\x04\x07", 5000)
	wantStream(t, "all of a long one", false, frame(5, long)+frame(1, "h")+frame(5, long), 0, 0, headers("h"))
}

// TestWideNumbers is promise 15.1 of kinds and counts that are written in more bytes than they need.
func TestWideNumbers(t *testing.T) {
	for _, a := range []int{1, 2, 4, 8} {
		for _, b := range []int{1, 2, 4, 8} {
			of := func(kind int64, body string) string { return wide(kind, a) + wide(int64(len(body)), b) + body }
			for _, body := range []string{"", "x", "abcdefghi"} {
				wantStream(t, "a request", false, of(1, body)+of(0, body)+of(0, "d"), 0, 0, headers(body), data(body+"d"))
				wantFault(t, "Data first", false, of(0, body)+of(1, body), unexpected)
				wantFault(t, "two Headers", false, of(1, body)+of(1, body), unexpected, headers(body))
				wantFault(t, "Settings in a request", false, of(4, body), unexpected)
				wantFault(t, "Goaway in a request", false, of(7, body), unexpected)
				wantFault(t, "Goaway first", true, "\x00"+of(7, body), missing)
				wantFault(t, "Data in a control stream", true, "\x00"+of(0, body), unexpected)
				wantFault(t, "Headers in a control stream", true, "\x00"+of(1, body), unexpected)
			}
			wantStream(t, "a control stream", true, "\x00"+of(4, "\x06\x07")+of(7, "\x05"), 0, 0, settings("\x06\x07"), goaway("\x05"))
			if b > 1 {
				wantFault(t, "too long", false, wide(1, a)+wide(4097, b), wrongFrame)
				wantFault(t, "too long", true, "\x00"+wide(4, a)+wide(4097, b), wrongFrame)
			}
		}
	}
}

// TestSizes is promise 15.1 of frames of 0, 1, 4095, 4096 and 4097 bytes, and of more.
func TestSizes(t *testing.T) {
	for _, size := range []int{0, 1, 2, 63, 64, 4094, 4095, 4096} {
		body := strings.Repeat("x", size)
		wantStream(t, "Headers", false, frame(1, body)+frame(0, "d"), 0, 0, headers(body), data("d"))
		if size > 0 {
			wantStream(t, "Headers, one byte is missing", false, head(1, int64(size))+body[1:], 0, wrongFrame)
		}
	}
	for _, size := range []int{1, 4095, 4096} {
		body := strings.Repeat("\x00", size)
		wantFault(t, "Settings", true, "\x00"+frame(4, body), wrongPairs)
		wantFault(t, "Settings, and more", true, "\x00"+frame(4, body)+frame(7, "\x00"), wrongPairs)
	}
	wantStream(t, "Settings of none", true, "\x00"+frame(4, ""), 0, 0, settings(""))
	for _, size := range []int{0, 4095, 4096} {
		wantFault(t, "Goaway", true, "\x00"+frame(4, "")+frame(7, strings.Repeat("\x00", size)), wrongFrame, settings(""))
	}
	wantStream(t, "Goaway of one", true, "\x00"+frame(4, "")+frame(7, "\x00"), 0, 0, settings(""), goaway("\x00"))
	for _, count := range []int64{4097, 4098, 1<<14 - 1, 1 << 14, 1 << 16, 1 << 30, 1 << 31, 1 << 32, 1<<32 + 1, 1 << 61, greatest - 1, greatest} {
		for _, more := range []string{"", "x", "\x06\x07", strings.Repeat("x", 100)} {
			wantFault(t, "Headers", false, head(1, count)+more, wrongFrame)
			wantFault(t, "Settings", true, "\x00"+head(4, count)+more, wrongFrame)
			wantFault(t, "Goaway", true, "\x00"+frame(4, "")+head(7, count)+more, wrongFrame, settings(""))
		}
	}
	wantFault(t, "Headers of 4097, all of them", false, frame(1, strings.Repeat("x", 4097)), wrongFrame)
	wantFault(t, "Settings of 4097, all of them", true, "\x00"+frame(4, strings.Repeat("\x00", 4097)), wrongFrame)
}

// TestSizeAndPlace is promise 15.1 with R2: where a frame stands is asked ahead of how long it is.
func TestSizeAndPlace(t *testing.T) {
	for _, count := range []int64{4096, 4097, greatest} {
		wantFault(t, "a second Headers", false, frame(1, "")+head(1, count), unexpected, headers(""))
		wantFault(t, "Data first", false, head(0, count), unexpected)
		wantFault(t, "Settings in a request", false, head(4, count), unexpected)
		wantFault(t, "Goaway in a request", false, head(7, count), unexpected)
		wantFault(t, "Goaway first", true, "\x00"+head(7, count), missing)
		wantFault(t, "a second Settings", true, "\x00"+frame(4, "")+head(4, count), unexpected, settings(""))
		wantFault(t, "Data in a control stream", true, "\x00"+head(0, count), unexpected)
		wantFault(t, "Headers in a control stream", true, "\x00"+head(1, count), unexpected)
	}
}

// TestData is promise 15.1 of frames of Data: of no bytes, of many, and of more than ever come.
func TestData(t *testing.T) {
	wantStream(t, "of no bytes", false, frame(1, "h")+frame(0, ""), 0, 0, headers("h"))
	wantStream(t, "of no bytes, twice, and one byte", false, frame(1, "h")+frame(0, "")+frame(0, "")+frame(0, "d"), 0, 0, headers("h"), data("d"))
	for _, size := range []int{1, 63, 64, 4095, 4096, 4097, 10000} {
		body := strings.Repeat("d", size-1) + "!"
		wantStream(t, "of many", false, frame(1, "h")+frame(0, body), 0, 0, headers("h"), data(body))
		wantStream(t, "of many, one is missing", false, frame(1, "h")+head(0, int64(size)+1)+body, 0, wrongFrame, headers("h"), data(body))
		wantStream(t, "of many, and more behind them", false, frame(1, "h")+frame(0, body)+frame(0, "d"), 0, 0, headers("h"), data(body+"d"))
	}
	for _, count := range []int64{1 << 31, 1 << 32, greatest} {
		wantStream(t, "of more than come", false, frame(1, "h")+head(0, count), 0, wrongFrame, headers("h"))
		wantStream(t, "of more than come, with some", false, frame(1, "h")+head(0, count)+frame(1, "d"), 0, wrongFrame, headers("h"), data("\x01\x01d"))
	}
	wantPieces(t, "a great piece", false, frame(1, "h")+head(0, 1<<20), strings.Repeat("d", 1<<20-1), "e"+frame(0, "f"))
}

// wantFeed is what one Feed must answer, to the byte.
func wantFeed(t *testing.T, r *h3.Reader, s string, code int64, events ...h3.Event) {
	t.Helper()
	if l, got := r.Feed(s); !slices.Equal(l, events) || got != code {
		t.Errorf("Feed of %x is %x, %x; want %x, %x", short(s), shorter(l), got, shorter(events), code)
	}
}

// TestDataPieces is promise 15.1: of each frame of Data an event of what came with this Feed.
func TestDataPieces(t *testing.T) {
	r := h3.New(false)
	wantFeed(t, r, "\x01\x01h\x00", 0, headers("h"))
	wantFeed(t, r, "\x05", 0)
	wantFeed(t, r, "ab", 0, data("ab"))
	wantFeed(t, r, "", 0)
	wantFeed(t, r, "c", 0, data("c"))
	wantFeed(t, r, "de\x00\x00\x00\x01f\x00\x02g", 0, data("de"), data("f"), data("g"))
	wantFeed(t, r, "h\x21\x01?\x00\x02i", 0, data("h"), data("i"))
	wantFeed(t, r, "j", 0, data("j"))
	wantFeed(t, r, "\x00\x00", 0)
	wantFeed(t, r, "\x00\x01k\x01\x00", unexpected, data("k"))
}

// TestWholeFrames is promise 15.1: Headers, Settings and Goaway are told when their last byte came, with all their data.
func TestWholeFrames(t *testing.T) {
	r := h3.New(false)
	wantFeed(t, r, "\x01\x03a", 0)
	wantFeed(t, r, "b", 0)
	wantFeed(t, r, "c", 0, headers("abc"))
	r = h3.New(false)
	wantFeed(t, r, "\x01", 0)
	wantFeed(t, r, "\x00", 0, headers(""))
	r = h3.New(true)
	wantFeed(t, r, "\x00\x04\x02\x06", 0)
	wantFeed(t, r, "\x07\x07\x04\x80\x01", 0, settings("\x06\x07"))
	wantFeed(t, r, "\x02\x03\x07\x01\x00\x07", 0, goaway("\x80\x01\x02\x03"), goaway("\x00"))
	wantFeed(t, r, "\x01\x05", 0, goaway("\x05"))
	r = h3.New(true)
	wantFeed(t, r, "\x00", 0)
	wantFeed(t, r, "\x04", 0)
	wantFeed(t, r, "\x00", 0, settings(""))
}

// TestAsSoon is promise 15.1: a fault is told with the last byte that says so, and not ahead of it.
func TestAsSoon(t *testing.T) {
	for _, c := range []struct {
		name    string
		control bool
		before  string
		last    string
		code    int64
	}{
		{"a first byte", true, "", "\x01", unexpected},
		{"Data first", false, "\x00", "\x05", unexpected},
		{"Data first, written widely", false, "\x40\x00\xc0\x00\x00\x00\x00\x00\x00", "\x05", unexpected},
		{"Settings in a request", false, "\x04", "\x02", unexpected},
		{"Goaway in a request", false, "\x07", "\x01", unexpected},
		{"a second Headers", false, "\x01\x00\x01", "\x05", unexpected},
		{"Data in a control stream", true, "\x00\x00", "\x05", unexpected},
		{"Headers in a control stream", true, "\x00\x01", "\x05", unexpected},
		{"a second Settings", true, "\x00\x04\x00\x04", "\x02", unexpected},
		{"Goaway first", true, "\x00\x07", "\x01", missing},
		{"long Headers", false, "\x01\x50", "\x01", wrongFrame},
		{"long Settings", true, "\x00\x04\x50", "\x01", wrongFrame},
		{"long Goaway", true, "\x00\x04\x00\x07\x50", "\x01", wrongFrame},
		{"Goaway with no number", true, "\x00\x04\x00\x07", "\x00", wrongFrame},
		{"Goaway with a number that is cut off", true, "\x00\x04\x00\x07\x02\x80", "\x00", wrongFrame},
		{"Goaway with a byte behind its number", true, "\x00\x04\x00\x07\x02\x00", "\x00", wrongFrame},
		{"Settings with half a pair", true, "\x00\x04\x01", "\x06", wrongPairs},
		{"Settings with a first one of 2", true, "\x00\x04\x04\x02\x00\x06", "\x00", wrongPairs},
	} {
		for _, pieces := range [][]string{{c.before}, bytesOf(c.before)} {
			r := h3.New(c.control)
			for _, piece := range pieces {
				if _, code := r.Feed(piece); code != 0 {
					t.Errorf("%s: the code is %x too early, behind %x", c.name, code, piece)
				}
			}
			if l, code := r.Feed(c.last); len(l) != 0 || code != c.code {
				t.Errorf("%s: at the last byte %x, %x; want none, %x", c.name, l, code, c.code)
			}
		}
		wantFault(t, c.name, c.control, c.before+c.last, c.code, joined(eventsOf(c.control, c.before))...)
	}
}

// eventsOf is what the test's own reader tells of a stream.
func eventsOf(control bool, s string) []h3.Event {
	l, _ := tell(control, s).between(s, 0, len(s))
	return l
}

// TestGoaway is promise 15.1 of Goaway's data: one number, and nothing else.
func TestGoaway(t *testing.T) {
	const start = "\x00\x04\x00"
	for _, n := range []int64{0, 1, 4, 63, 64, 1<<14 - 1, 1 << 14, 1<<30 - 1, 1 << 30, greatest} {
		for _, size := range room(n) {
			one := wide(n, size)
			wantStream(t, "a number", true, start+frame(7, one), 0, 0, settings(""), goaway(one))
			wantStream(t, "two of them", true, start+frame(7, one)+frame(7, "\x00")+frame(7, one), 0, 0, settings(""), goaway(one), goaway("\x00"), goaway(one))
			for at := range size {
				wantFault(t, "a number that is cut off", true, start+frame(7, one[:at]), wrongFrame, settings(""))
				wantFault(t, "cut off, and more frames", true, start+frame(7, one[:at])+frame(7, one), wrongFrame, settings(""))
			}
			for _, more := range []string{"\x00", "\xff", "\x40\x00", one, strings.Repeat("\x00", 100)} {
				wantFault(t, "bytes behind it", true, start+frame(7, one+more), wrongFrame, settings(""))
				wantFault(t, "bytes behind it, in a second one", true, start+frame(7, one)+frame(7, one+more), wrongFrame, settings(""), goaway(one))
			}
		}
	}
	for first := range 256 {
		for size := range 12 {
			s := start + frame(7, (string([]byte{byte(first)}) + strings.Repeat("\x00", 11))[:size])
			if size == 1<<(first/64) {
				wantStream(t, "so many bytes as the first one says", true, s, 0, 0, settings(""), goaway(s[5:]))
			} else {
				wantFault(t, "other bytes than the first one says", true, s, wrongFrame, settings(""))
			}
		}
	}
}

// TestSettings is promise 15.1 of Settings' data: what Pairs takes.
func TestSettings(t *testing.T) {
	for _, c := range pairTexts() {
		s := "\x00" + frame(4, c.s)
		if c.e == api.OK {
			wantStream(t, c.name, true, s+frame(7, "\x00"), 0, 0, settings(c.s), goaway("\x00"))
		} else {
			wantFault(t, c.name, true, s, wrongPairs)
			wantFault(t, c.name+", and more", true, s+frame(7, "\x00"), wrongPairs)
			wantFault(t, c.name+", behind a strange frame", true, "\x00"+frame(2, c.s)+s[1:], wrongPairs)
		}
		wantStream(t, c.name+", in Headers", false, frame(1, c.s), 0, 0, headers(c.s))
	}
}

// TestAheadOfFault is promise 15.1: the events ahead of a fault come with its code, in the same Feed.
func TestAheadOfFault(t *testing.T) {
	wantFeed(t, h3.New(false), "\x01\x01h\x00\x02ab\x00\x00\x00\x01c\x01\x01h\x00\x01d", unexpected, headers("h"), data("ab"), data("c"))
	wantFeed(t, h3.New(false), "\x21\x00\x01\x00\x07\x00\x00\x01d", unexpected, headers(""))
	wantFeed(t, h3.New(true), "\x00\x04\x00\x07\x01\x05\x07\x01\x04\x07\x02\x00\x00\x07\x01\x03", wrongFrame, settings(""), goaway("\x05"), goaway("\x04"))
	wantFeed(t, h3.New(true), "\x00\x04\x02\x06\x07\x04\x00\x07\x01\x05", unexpected, settings("\x06\x07"))
	wantFeed(t, h3.New(true), "\x00\x04\x02\x02\x07\x07\x01\x05", wrongPairs)
	r := h3.New(false)
	wantFeed(t, r, "\x01\x00\x00\x03a", 0, headers(""), data("a"))
	wantFeed(t, r, "bc\x04\x00", unexpected, data("bc"))
	wantFeed(t, r, "\x00\x01d", unexpected)
}

// TestBehindFault is promises 15.1 and 15.2: behind a fault every Feed answers none and the same code, and so does End.
func TestBehindFault(t *testing.T) {
	for _, c := range []struct {
		control bool
		s       string
		code    int64
	}{
		{false, "\x00\x00", unexpected}, {false, "\x01\x50\x01", wrongFrame}, {false, "\x01\x00\x01\x00", unexpected},
		{true, "\x01", unexpected}, {true, "\xff", unexpected}, {true, "\x00\x00\x00", unexpected}, {true, "\x00\x07\x01", missing},
		{true, "\x00\x04\x01\x00", wrongPairs}, {true, "\x00\x04\x00\x07\x00", wrongFrame}, {true, "\x00\x04\x50\x01", wrongFrame},
	} {
		r := h3.New(c.control)
		r.Feed(c.s)
		for _, more := range []string{"", "\x00", "\x01\x00", "\x04\x00", "\x00\x04\x00", "\x07\x01\x00", "\x00\x01a", "\x00\x00", "\x21\x00", "\xff", strings.Repeat("\x00", 5000), frame(1, strings.Repeat("x", 5000)), ""} {
			wantFeed(t, r, more, c.code)
			if code := r.End(); code != c.code {
				t.Errorf("End behind %x and %x is %x, want %x", c.s, short(more), code, c.code)
			}
		}
	}
}
