package capsule_test

import (
	"math/rand"
	"strings"
	"testing"

	"vizard/api"
	"vizard/capsule"
)

func wantGram(t *testing.T, stream, context int64, data, bytes string, want api.Errno) {
	t.Helper()
	if s, e := capsule.Gram(stream, context, data); s != bytes || e != want {
		t.Errorf("Gram of %d, %d and %d bytes is %x, %d; want %x, %d", stream, context, len(data), short(s), e, short(bytes), want)
	}
}

func wantOpen(t *testing.T, s string, stream, context int64, data string, want api.Errno) {
	t.Helper()
	if a, b, c, e := capsule.Open(s); a != stream || b != context || c != data || e != want {
		t.Errorf("Open of %x is %d, %d, %x, %d; want %d, %d, %x, %d", short(s), a, b, short(c), e, stream, context, short(data), want)
	}
}

// opened is what Open must answer.
func opened(s string) (int64, int64, string, api.Errno) {
	first, middle, ok := number(s, 0)
	if !ok {
		return 0, 0, "", api.ErrShort
	}
	second, end, ok := number(s, middle)
	if !ok {
		return 0, 0, "", api.ErrShort
	}
	if first >= 8 {
		return 0, 0, "", api.ErrRange
	}
	return first * 4, second, s[end:], api.OK
}

// wantSameOpen asks Open for what the test's own one says.
func wantSameOpen(t *testing.T, s string) {
	t.Helper()
	stream, context, data, e := opened(s)
	wantOpen(t, s, stream, context, data, e)
}

// TestGramExamples is the chapter's examples of datagrams.
func TestGramExamples(t *testing.T) {
	wantGram(t, 4, 0, "x", "\x01\x00\x78", api.OK)
	wantOpen(t, "\x01\x00\x78", 4, 0, "x", api.OK)
	wantOpen(t, "\x08\x00", 0, 0, "", api.ErrRange)
}

// TestGramStreams is promise 16.3 of all streams near those that there are, and far from them.
func TestGramStreams(t *testing.T) {
	for stream := int64(-40); stream < 80; stream++ {
		if stream >= 0 && stream <= 28 && stream&3 == 0 {
			place := string([]byte{byte(stream >> 2)})
			wantGram(t, stream, 0, "", place+"\x00", api.OK)
			wantGram(t, stream, 0, "ab", place+"\x00ab", api.OK)
			wantGram(t, stream, greatest, "ab", place+"\xff\xff\xff\xff\xff\xff\xff\xffab", api.OK)
		} else {
			wantGram(t, stream, 0, "", "", api.ErrRange)
			wantGram(t, stream, 0, "ab", "", api.ErrRange)
			wantGram(t, stream, -1, "ab", "", api.ErrRange)
		}
	}
	for _, stream := range append(noNumbers, 256, 1<<16, 1<<30, 1<<31, 1<<32, 1<<32+4, 1<<34, greatest, greatest-3) {
		wantGram(t, stream, 0, "ab", "", api.ErrRange)
	}
}

// TestGramContexts is promise 16.3 of contexts.
func TestGramContexts(t *testing.T) {
	for _, data := range []string{"", "a", "\x00", strings.Repeat("x", 1200), strings.Repeat("y", 1<<16+1)} {
		for _, context := range append(kinds, 7, 8, 28) {
			wantGram(t, 8, context, data, "\x02"+put(context)+data, api.OK)
			wantOpen(t, "\x02"+put(context)+data, 8, context, data, api.OK)
		}
		for _, context := range noNumbers {
			wantGram(t, 8, context, data, "", api.ErrRange)
			wantGram(t, 9, context, data, "", api.ErrRange)
		}
	}
}

// TestOpen is promise 16.3 of bytes that are a datagram, and such as are none.
func TestOpen(t *testing.T) {
	for _, c := range []struct {
		s       string
		stream  int64
		context int64
		data    string
		e       api.Errno
	}{
		{"", 0, 0, "", api.ErrShort},
		{"\x00", 0, 0, "", api.ErrShort},
		{"\x07", 0, 0, "", api.ErrShort},
		{"\x08", 0, 0, "", api.ErrShort},
		{"\x40", 0, 0, "", api.ErrShort},
		{"\xff\xff\xff\xff\xff\xff\xff", 0, 0, "", api.ErrShort},
		{"\xff\xff\xff\xff\xff\xff\xff\xff", 0, 0, "", api.ErrShort},
		{"\x00\x40", 0, 0, "", api.ErrShort},
		{"\x08\x40", 0, 0, "", api.ErrShort},
		{"\x08\x80\x00\x00", 0, 0, "", api.ErrShort},
		{"\x00\xc0\x00\x00\x00\x00\x00\x00", 0, 0, "", api.ErrShort},
		{"\x00\x00", 0, 0, "", api.OK},
		{"\x00\x00\x00", 0, 0, "\x00", api.OK},
		{"\x07\x00", 28, 0, "", api.OK},
		{"\x07\x3fab", 28, 63, "ab", api.OK},
		{"\x08\x00", 0, 0, "", api.ErrRange},
		{"\x08\x00ab", 0, 0, "", api.ErrRange},
		{"\x20\x00ab", 0, 0, "", api.ErrRange},
		{"\x40\x07\x00ab", 28, 0, "ab", api.OK},
		{"\x40\x08\x00ab", 0, 0, "", api.ErrRange},
		{"\x40\x07\x40\x01ab", 28, 1, "ab", api.OK},
		{"\xc0\x00\x00\x00\x00\x00\x00\x01\xc0\x00\x00\x00\x00\x00\x00\x02c", 4, 2, "c", api.OK},
		{"\xff\xff\xff\xff\xff\xff\xff\xff\x00", 0, 0, "", api.ErrRange},
		{"\xc0\x00\x00\x01\x00\x00\x00\x00\x00", 0, 0, "", api.ErrRange},
		{"\x00\xff\xff\xff\xff\xff\xff\xff\xff", 0, greatest, "", api.OK},
	} {
		wantOpen(t, c.s, c.stream, c.context, c.data, c.e)
		wantSameOpen(t, c.s)
	}
}

// TestOpenWide is promise 16.3 of numbers that are written in more bytes than they need, and cut off at every byte.
func TestOpenWide(t *testing.T) {
	for _, place := range []int64{0, 1, 6, 7, 8, 9, 28, 32, 63, 64, 1 << 14, 1 << 30, 1 << 32, 1<<32 + 1, 1 << 60, 1<<61 + 1, greatest} {
		for _, context := range kinds {
			for _, a := range room(place) {
				for _, b := range room(context) {
					s := wide(place, a) + wide(context, b)
					for at := range len(s) {
						wantOpen(t, s[:at], 0, 0, "", api.ErrShort)
					}
					if place < 8 {
						wantOpen(t, s+"data", place*4, context, "data", api.OK)
						wantOpen(t, s, place*4, context, "", api.OK)
					} else {
						wantOpen(t, s+"data", 0, 0, "", api.ErrRange)
						wantOpen(t, s, 0, 0, "", api.ErrRange)
					}
				}
			}
		}
	}
}

// TestEveryShortGram is promise 16.3 of all bytes, up to two, and more behind them.
func TestEveryShortGram(t *testing.T) {
	for a := range 256 {
		wantSameOpen(t, string([]byte{byte(a)}))
		for b := range 256 {
			two := string([]byte{byte(a), byte(b)})
			for _, more := range []string{"", "\x00", "abc", "\x00\x00\x00\x00\x00\x00\x00\x00\x00"} {
				wantSameOpen(t, two+more)
			}
		}
	}
}

// TestGramsThereAndBack is promise 16.4 of datagrams.
func TestGramsThereAndBack(t *testing.T) {
	r := rand.New(rand.NewSource(163))
	for range 20000 {
		stream, context := 4*r.Int63n(8), r.Int63()>>(1+r.Intn(62))
		data := strings.Repeat(string([]byte{byte(r.Intn(256))}), r.Intn(40))
		s, e := capsule.Gram(stream, context, data)
		if e != api.OK {
			t.Fatalf("Gram of %d and %d is %d", stream, context, e)
		}
		wantOpen(t, s, stream, context, data, api.OK)
		wantSameOpen(t, changed(r, s))
	}
}

// FuzzOpen is promises 16.3 and 16.4 of any bytes.
func FuzzOpen(f *testing.F) {
	for _, s := range []string{"", "\x00", "\x08\x00", "\x07\x00ab", "\x40\x07\x80\x00\x00\x01x", "\xff\xff\xff\xff\xff\xff\xff\xff\x00"} {
		f.Add(s)
	}
	f.Fuzz(func(t *testing.T, s string) {
		wantSameOpen(t, s)
		if stream, context, data, e := capsule.Open(s); e == api.OK {
			again, e := capsule.Gram(stream, context, data)
			if e != api.OK || len(again) > len(s) {
				t.Errorf("Gram of Open of %x is %x, %d", short(s), short(again), e)
			}
			wantOpen(t, again, stream, context, data, api.OK)
		}
	})
}
