package varint_test

import (
	"encoding/binary"
	"math"
	"strings"
	"testing"

	"vizard/api"
	"vizard/varint"
)

// edges are the least and the greatest number of each size, and the shortest writings that the document's words ask for.
var edges = []struct {
	n    int64
	size int
	text string
}{
	{0, 1, "\x00"},
	{1, 1, "\x01"},
	{37, 1, "\x25"},
	{1<<6 - 1, 1, "\x3f"},
	{1 << 6, 2, "\x40\x40"},
	{1<<8 - 1, 2, "\x40\xff"},
	{1 << 8, 2, "\x41\x00"},
	{15293, 2, "\x7b\xbd"},
	{1<<14 - 1, 2, "\x7f\xff"},
	{1 << 14, 4, "\x80\x00\x40\x00"},
	{494878333, 4, "\x9d\x7f\x3e\x7d"},
	{1<<30 - 1, 4, "\xbf\xff\xff\xff"},
	{1 << 30, 8, "\xc0\x00\x00\x00\x40\x00\x00\x00"},
	{1 << 31, 8, "\xc0\x00\x00\x00\x80\x00\x00\x00"},
	{1 << 32, 8, "\xc0\x00\x00\x01\x00\x00\x00\x00"},
	{0x0123456789abcdef, 8, "\xc1\x23\x45\x67\x89\xab\xcd\xef"},
	{api.MaxVarint, 8, "\xff\xff\xff\xff\xff\xff\xff\xff"},
}

var noNumbers = []int64{-1, -2, -64, -1 << 32, math.MinInt64 + 1, math.MinInt64, api.MaxVarint + 1, api.MaxVarint + 2, math.MaxInt64 - 1, math.MaxInt64}

// spread is numbers around each power of two, and some between, rising.
func spread() []int64 {
	out := []int64{0}
	add := func(n int64) {
		if n > out[len(out)-1] && n <= api.MaxVarint {
			out = append(out, n)
		}
	}
	for bit := range 62 {
		low := int64(1) << bit
		add(low - 1)
		add(low)
		add(low + 1)
		add(low + low/3)
		add(low + low/2 + 5)
	}
	add(api.MaxVarint - 1)
	add(api.MaxVarint)
	return out
}

// writing is a number in so many bytes, whether it needs them or not.
func writing(n int64, size int) string {
	var b [8]byte
	binary.BigEndian.PutUint64(b[:], uint64(n))
	mark := map[int]byte{1: 0x00, 2: 0x40, 4: 0x80, 8: 0xc0}[size]
	out := b[8-size:]
	out[0] |= mark
	return string(out)
}

func wantGet(t *testing.T, s string, n int64, size int, e api.Errno) {
	t.Helper()
	gotN, gotSize, gotE := varint.Get(s)
	if gotN != n || gotSize != size || gotE != e {
		t.Errorf("Get(%x): %d, %d, %v, want %d, %d, %v", s, gotN, gotSize, gotE, n, size, e)
	}
}

func wantTake(t *testing.T, s, data string, size int, e api.Errno) {
	t.Helper()
	gotData, gotSize, gotE := varint.Take(s)
	if gotData != data || gotSize != size || gotE != e {
		t.Errorf("Take of %d bytes: %d bytes, %d, %v, want %d bytes, %d, %v", len(s), len(gotData), gotSize, gotE, len(data), size, e)
	}
}

// Promise 1.1: Size and Put.

func TestSizeAtEdges(t *testing.T) {
	for _, c := range edges {
		if got := varint.Size(c.n); got != c.size {
			t.Errorf("Size(%d): %d, want %d", c.n, got, c.size)
		}
	}
}

func TestPutAtEdges(t *testing.T) {
	for _, c := range edges {
		if got := varint.Put(c.n); got != c.text {
			t.Errorf("Put(%d): %x, want %x", c.n, got, c.text)
		}
	}
}

func TestSizeAndPutOfNoNumber(t *testing.T) {
	for _, n := range noNumbers {
		if got := varint.Size(n); got != 0 {
			t.Errorf("Size(%d): %d, want 0", n, got)
		}
		if got := varint.Put(n); got != "" {
			t.Errorf("Put(%d): %x, want nothing", n, got)
		}
	}
}

func TestPutHasSizeBytes(t *testing.T) {
	for _, n := range spread() {
		size := varint.Size(n)
		if got, want := varint.Put(n), writing(n, size); got != want {
			t.Errorf("Put(%d): %x, want %x", n, got, want)
		}
	}
}

func TestSizeIsTheLeast(t *testing.T) {
	for _, n := range spread() {
		want := 8
		for _, size := range []int{4, 2, 1} {
			if n < int64(1)<<(8*size-2) {
				want = size
			}
		}
		if got := varint.Size(n); got != want {
			t.Errorf("Size(%d): %d, want %d", n, got, want)
		}
	}
}

// Promise 1.1: Get.

func TestGetAtEdges(t *testing.T) {
	for _, c := range edges {
		wantGet(t, c.text, c.n, c.size, api.OK)
		wantGet(t, c.text+"\xff\x00z", c.n, c.size, api.OK)
	}
}

func TestGetOfMoreBytesThanNeeded(t *testing.T) {
	wantGet(t, "\x40\x25", 37, 2, api.OK)
	wantGet(t, "\x80\x00\x00\x25", 37, 4, api.OK)
	wantGet(t, "\xc0\x00\x00\x00\x00\x00\x00\x25", 37, 8, api.OK)
	for _, n := range spread() {
		for _, size := range []int{1, 2, 4, 8} {
			if size >= varint.Size(n) {
				wantGet(t, writing(n, size), n, size, api.OK)
				wantGet(t, writing(n, size)+"\xff", n, size, api.OK)
			}
		}
	}
}

func TestGetOfBytesThatEndWithin(t *testing.T) {
	wantGet(t, "", 0, 0, api.ErrShort)
	wantGet(t, "\x40", 0, 0, api.ErrShort)
	for _, n := range spread() {
		for _, size := range []int{1, 2, 4, 8} {
			if size < varint.Size(n) {
				continue
			}
			whole := writing(n, size)
			for end := range size {
				wantGet(t, whole[:end], 0, 0, api.ErrShort)
			}
		}
	}
}

func TestGetOfEachFirstByte(t *testing.T) {
	rest := "\x81\x02\x83\x04\x85\x06\x87"
	for first := range 256 {
		s := string([]byte{byte(first)}) + rest
		size := 1 << (first >> 6)
		n := int64(first % 64)
		for i := 1; i < size; i++ {
			n = n*256 + int64(s[i])
		}
		wantGet(t, s, n, size, api.OK)
		wantGet(t, s[:size], n, size, api.OK)
		wantGet(t, s[:size-1], 0, 0, api.ErrShort)
	}
}

// Promise 1.2: Text and Take.

func TestText(t *testing.T) {
	if got := varint.Text(""); got != "\x00" {
		t.Errorf("Text of nothing: %x, want 00", got)
	}
	if got := varint.Text("ab"); got != "\x02ab" {
		t.Errorf("Text(ab): %x, want 026162", got)
	}
	for _, count := range []int{1, 63, 64, 255, 256, 1<<14 - 1, 1 << 14, api.MaxText, api.MaxText + 1, 1 << 20} {
		s := strings.Repeat("x", count-1) + "\xff"
		if got, want := varint.Text(s), varint.Put(int64(count))+s; got != want {
			t.Errorf("Text of %d bytes: %d bytes, not the count and then they", count, len(got))
		}
	}
}

func TestTake(t *testing.T) {
	wantTake(t, "\x00", "", 1, api.OK)
	wantTake(t, "\x00ab", "", 1, api.OK)
	wantTake(t, "\x02ab", "ab", 3, api.OK)
	wantTake(t, "\x02abc", "ab", 3, api.OK)
	wantTake(t, "\x03\x00\xff\x80", "\x00\xff\x80", 4, api.OK)
	for _, count := range []int{1, 63, 64, 255, 256, 1<<14 - 1, 1 << 14, api.MaxText, api.MaxText + 1, 1 << 20} {
		s := strings.Repeat("x", count-1) + "\xff"
		size := varint.Size(int64(count))
		wantTake(t, varint.Put(int64(count))+s, s, size+count, api.OK)
		wantTake(t, varint.Put(int64(count))+s+"more", s, size+count, api.OK)
	}
}

func TestTakeWithCountInMoreBytesThanNeeded(t *testing.T) {
	wantTake(t, "\x40\x00", "", 2, api.OK)
	wantTake(t, "\x40\x02ab", "ab", 4, api.OK)
	wantTake(t, "\x80\x00\x00\x02abc", "ab", 6, api.OK)
	wantTake(t, "\xc0\x00\x00\x00\x00\x00\x00\x02abc", "ab", 10, api.OK)
}

func TestTakeOfBytesThatEndWithinTheCount(t *testing.T) {
	for _, s := range []string{"", "\x40", "\x80\x00\x00", "\xc0\x00\x00\x00\x00\x00\x00", "\xff"} {
		wantTake(t, s, "", 0, api.ErrShort)
	}
}

func TestTakeOfBytesThatEndWithinTheText(t *testing.T) {
	for _, s := range []string{"\x01", "\x02a", "\x3fabc", "\x40\x01", "\x40\x03ab", "\x80\x00\x00\x01", "\xc0\x00\x00\x00\x00\x00\x00\x03ab"} {
		wantTake(t, s, "", 0, api.ErrShort)
	}
	whole := varint.Text(strings.Repeat("x", 100))
	for end := range len(whole) {
		wantTake(t, whole[:end], "", 0, api.ErrShort)
	}
}

func TestTakeOfGreatCounts(t *testing.T) {
	for _, n := range []int64{1 << 30, 1<<31 - 1, 1 << 31, 1<<32 - 1, 1 << 32, 1<<32 + 2, 1 << 61, api.MaxVarint - 8, api.MaxVarint} {
		wantTake(t, varint.Put(n), "", 0, api.ErrShort)
		wantTake(t, varint.Put(n)+"abcd", "", 0, api.ErrShort)
	}
}

// Promise 1.3: what follows.

func TestGetOfPut(t *testing.T) {
	for _, n := range spread() {
		for _, rest := range []string{"", "\x00", "\xff", "\x40", "abcdefgh"} {
			wantGet(t, varint.Put(n)+rest, n, varint.Size(n), api.OK)
		}
	}
}

func TestTakeOfText(t *testing.T) {
	for _, s := range []string{"", "a", "\x00", "\xff\xff", "\x40", varint.Text("ab"), strings.Repeat("y", 64), strings.Repeat("\x80", 1<<14)} {
		for _, rest := range []string{"", "\x00", "\xff", "abcdefgh"} {
			text := varint.Text(s)
			wantTake(t, text+rest, s, len(text), api.OK)
		}
	}
}

func TestLesserNumbersNeedNoMoreBytes(t *testing.T) {
	numbers := spread()
	for i, greater := range numbers[1:] {
		lesser := numbers[i]
		if varint.Size(lesser) > varint.Size(greater) {
			t.Errorf("%d needs more bytes than %d", lesser, greater)
		}
	}
}

func TestOfAsManyBytesTheGreaterIsGreater(t *testing.T) {
	numbers := spread()
	for i, greater := range numbers[1:] {
		lesser := numbers[i]
		if varint.Size(lesser) == varint.Size(greater) && varint.Put(lesser) >= varint.Put(greater) {
			t.Errorf("Put(%d) %x is not below Put(%d) %x", lesser, varint.Put(lesser), greater, varint.Put(greater))
		}
	}
}

// FuzzBytes holds at all bytes: each call ends, and what is read fits what is there.
func FuzzBytes(f *testing.F) {
	for _, c := range edges {
		f.Add(c.text)
		f.Add(c.text[:c.size-1])
		f.Add(c.text + strings.Repeat("a", 70))
	}
	f.Fuzz(func(t *testing.T, s string) {
		n, size, e := varint.Get(s)
		switch {
		case e == api.OK && (size > len(s) || writing(n, size) != s[:size]):
			t.Errorf("Get(%x): %d in %d bytes", s, n, size)
		case e != api.OK && (e != api.ErrShort || n != 0 || size != 0 || s != "" && len(s) >= 1<<(s[0]>>6)):
			t.Errorf("Get(%x): %d, %d, %v", s, n, size, e)
		}
		if e != api.OK || n > int64(len(s)-size) {
			wantTake(t, s, "", 0, api.ErrShort)
		} else {
			wantTake(t, s, s[size:size+int(n)], size+int(n), api.OK)
		}
		wantTake(t, varint.Text(s)+s, s, len(varint.Text(s)), api.OK)
	})
}
