package h3_test

import (
	"math"
	"slices"
	"strings"
	"testing"

	"vizard/api"
	"vizard/h3"
)

// TestFrame is promise 15.3 of a frame's bytes.
func TestFrame(t *testing.T) {
	for _, c := range []struct {
		kind int64
		data string
		want string
	}{
		{0, "", "\x00\x00"},
		{0, "a", "\x00\x01a"},
		{1, "\x82\x84", "\x01\x02\x82\x84"},
		{4, "\x06\x07", "\x04\x02\x06\x07"},
		{7, "\x00", "\x07\x01\x00"},
		{0x21, "AA", "\x21\x02AA"},
		{63, "", "\x3f\x00"},
		{64, "", "\x40\x40\x00"},
		{greatest, "", "\xff\xff\xff\xff\xff\xff\xff\xff\x00"},
		{greatest, "a", "\xff\xff\xff\xff\xff\xff\xff\xff\x01a"},
		{0, strings.Repeat("x", 63), "\x00\x3f" + strings.Repeat("x", 63)},
		{0, strings.Repeat("x", 64), "\x00\x40\x40" + strings.Repeat("x", 64)},
		{1, strings.Repeat("x", 4097), "\x01\x50\x01" + strings.Repeat("x", 4097)},
		{0, strings.Repeat("x", 1<<14), "\x00\x80\x00\x40\x00" + strings.Repeat("x", 1<<14)},
	} {
		if s := h3.Frame(c.kind, c.data); s != c.want || s != frame(c.kind, c.data) {
			t.Errorf("Frame of %d and %d bytes is %x, want %x", c.kind, len(c.data), short(s), short(c.want))
		}
	}
}

// TestFrameOfNoNumber is promise 15.3 of kinds that are no numbers.
func TestFrameOfNoNumber(t *testing.T) {
	for _, kind := range []int64{-1, -2, -7, -64, -1 << 32, -1 << 62, math.MinInt64 + 1, math.MinInt64, greatest + 1, greatest + 2, math.MaxInt64 - 1, math.MaxInt64} {
		for _, data := range []string{"", "a", strings.Repeat("x", 5000)} {
			if s := h3.Frame(kind, data); s != "" {
				t.Errorf("Frame of %d is %x", kind, short(s))
			}
		}
	}
}

// TestFramesAreRead is promises 15.1 and 15.3: what Frame writes the reader reads.
func TestFramesAreRead(t *testing.T) {
	for _, size := range []int{0, 1, 63, 64, 4096} {
		body := strings.Repeat("\x01", size)
		wantStream(t, "a request", false, h3.Frame(h3.Headers, body)+h3.Frame(h3.Data, body)+h3.Frame(h3.Data, "!"), 0, 0, headers(body), data(body+"!"))
		for _, kind := range strangeKinds {
			wantStream(t, "strange", true, "\x00"+h3.Frame(kind, body)+h3.Frame(h3.Settings, "\x06\x07")+h3.Frame(h3.Goaway, "\x04"), 0, 0, settings("\x06\x07"), goaway("\x04"))
		}
	}
}

// pair is a pair's bytes.
func pair(low, high int64) string {
	return put(low) + put(high)
}

// pairs are that many right pairs, and what they say.
func pairs(count int) (string, []api.Range) {
	var s strings.Builder
	var l []api.Range
	for i := range int64(count) {
		r := api.Range{Low: 6 + 1000*i, High: 3 * i * i}
		s.WriteString(pair(r.Low, r.High))
		l = append(l, r)
	}
	return s.String(), l
}

// pairText is bytes, and what Pairs must answer of them.
type pairText struct {
	name string
	s    string
	l    []api.Range
	e    api.Errno
}

// pairTexts are pairs that are right, and such as are not.
func pairTexts() []pairText {
	one, oneList := pairs(1)
	most, mostList := pairs(16)
	fifteen, _ := pairs(15)
	more, _ := pairs(17)
	l := []pairText{
		{"none", "", nil, api.OK},
		{"one", one, oneList, api.OK},
		{"zeros", "\x00\x00", []api.Range{{}}, api.OK},
		{"1 and 6, the neighbours of those that are wrong", "\x01\x02\x06\x02", []api.Range{{Low: 1, High: 2}, {Low: 6, High: 2}}, api.OK},
		{"a second one that would be wrong as a first one", "\x06\x02\x07\x03\x08\x04\x09\x05", []api.Range{{Low: 6, High: 2}, {Low: 7, High: 3}, {Low: 8, High: 4}, {Low: 9, High: 5}}, api.OK},
		{"a second one that stood there as a first one, and as a second one", "\x06\x07\x07\x06\x08\x06", []api.Range{{Low: 6, High: 7}, {Low: 7, High: 6}, {Low: 8, High: 6}}, api.OK},
		{"the second one less than the first one", "\x09\x01", []api.Range{{Low: 9, High: 1}}, api.OK},
		{"the greatest numbers", pair(greatest, greatest), []api.Range{{Low: greatest, High: greatest}}, api.OK},
		{"two that differ in their highest bytes", pair(1<<32+2, 0) + pair(1<<33+2, 0), []api.Range{{Low: 1<<32 + 2}, {Low: 1<<33 + 2}}, api.OK},
		{"sixteen", most, mostList, api.OK},
		{"a first one alone", "\x06", nil, api.ErrShort},
		{"a first one that is cut off", "\x40", nil, api.ErrShort},
		{"a second one that is cut off", "\x06\x40", nil, api.ErrShort},
		{"a wrong first one alone", "\x02", nil, api.ErrShort},
		{"a wrong first one, and a second one that is cut off", "\x02\x80\x00\x00", nil, api.ErrShort},
		{"a first one twice, and its second one is missing", "\x06\x00\x06", nil, api.ErrShort},
		{"a first one twice", "\x06\x00\x06\x00", nil, api.ErrField},
		{"a first one twice, with another second one", "\x06\x00\x06\x01", nil, api.ErrField},
		{"a first one twice, with others between", "\x06\x00\x07\x00\x08\x00\x06\x01", nil, api.ErrField},
		{"a first one twice, written widely", "\x06\x00\x40\x06\x00", nil, api.ErrField},
		{"seventeen", more, nil, api.ErrLong},
		{"seventeen, and no whole one behind them", more + "\x02", nil, api.ErrLong},
		{"sixteen, and a first one alone", most + "\x3e", nil, api.ErrShort},
		{"sixteen, and a wrong first one alone", most + "\x02", nil, api.ErrShort},
		{"sixteen, and a wrong first one", most + "\x02\x00", nil, api.ErrKind},
		{"sixteen, and a first one that stood there", most + "\x06\x00", nil, api.ErrField},
		{"fifteen, and two that are alike", fifteen + "\x3e\x00\x3e\x00", nil, api.ErrField},
		{"fifteen, one, and a wrong one", fifteen + "\x3e\x00\x05\x00", nil, api.ErrKind},
		{"a wrong first one twice", "\x02\x00\x02\x00", nil, api.ErrKind},
		{"a first one twice, and then a wrong one", "\x06\x00\x06\x00\x02\x00", nil, api.ErrField},
		{"a wrong one, and then a first one twice", "\x02\x00\x06\x00\x06\x00", nil, api.ErrKind},
		{"a wrong one, and then a cut one", "\x02\x00\x06", nil, api.ErrKind},
		{"a wrong one, and then too many", "\x02\x00" + more, nil, api.ErrKind},
		{"a first one twice, and then a cut one", "\x06\x00\x06\x00\x07", nil, api.ErrField},
	}
	for low := range int64(10) {
		for _, size := range room(low) {
			c := pairText{"a first one below ten", wide(low, size) + "\x09", []api.Range{{Low: low, High: 9}}, api.OK}
			if low > 1 && low < 6 {
				c.l, c.e = nil, api.ErrKind
			}
			l = append(l, c)
		}
	}
	for at := range len(one) {
		if at > 0 {
			l = append(l, pairText{"one, cut off", one[:at], nil, api.ErrShort})
		}
	}
	return l
}

func wantPairs(t *testing.T, name, s string, list []api.Range, want api.Errno) {
	t.Helper()
	if l, e := paired(s); !slices.Equal(l, list) || e != want {
		t.Fatalf("%s: the test says of %x both %v, %d, and %v, %d", name, short(s), list, want, l, e)
	}
	if l, e := h3.Pairs(s); !slices.Equal(l, list) || e != want {
		t.Errorf("%s: Pairs of %x is %v, %d; want %v, %d", name, short(s), l, e, list, want)
	}
}

// wantSamePairs asks Pairs for what the test's own reader says.
func wantSamePairs(t *testing.T, name, s string) {
	t.Helper()
	l, e := paired(s)
	wantPairs(t, name, s, l, e)
}

// TestPairs is promise 15.3 of pairs that are right, and of each fault and each two of them.
func TestPairs(t *testing.T) {
	for _, c := range pairTexts() {
		wantPairs(t, c.name, c.s, c.l, c.e)
	}
	for count := range 20 {
		s, l := pairs(count)
		if count > 16 {
			wantPairs(t, "too many", s, nil, api.ErrLong)
		} else {
			wantPairs(t, "so many", s, l, api.OK)
		}
		for at := range len(s) {
			wantSamePairs(t, "cut at every byte", s[:at])
		}
	}
	wantPairs(t, "many, all wrong", strings.Repeat("\x02\x00", 5000), nil, api.ErrKind)
	wantPairs(t, "many, all alike", strings.Repeat("\x00", 10000), nil, api.ErrField)
}

// TestEveryShortPairs is promise 15.3 of every text of up to two bytes, and of longer ones of bytes that matter.
func TestEveryShortPairs(t *testing.T) {
	for a := range 256 {
		wantSamePairs(t, "one", string([]byte{byte(a)}))
		for b := range 256 {
			wantSamePairs(t, "two", string([]byte{byte(a), byte(b)}))
			wantSamePairs(t, "behind a pair", string([]byte{7, 0, byte(a), byte(b)}))
		}
	}
	var grow func(s string, more int)
	grow = func(s string, more int) {
		wantSamePairs(t, "longer", s)
		if more == 0 {
			return
		}
		for _, b := range []byte("\x00\x01\x02\x05\x06\x40\x80") {
			grow(s+string([]byte{b}), more-1)
		}
	}
	grow("", 6)
}

// TestPairsNewMemory is promise 15.3 with R4.
func TestPairsNewMemory(t *testing.T) {
	s, want := pairs(5)
	first, _ := h3.Pairs(s)
	second, _ := h3.Pairs(s)
	clear(first)
	_ = append(first, api.Range{Low: 1})
	if !slices.Equal(second, want) {
		t.Error("a change of an answer changes another")
	}
}

// FuzzPairs is promise 15.3 of any bytes.
func FuzzPairs(f *testing.F) {
	for _, c := range pairTexts() {
		f.Add(c.s)
	}
	f.Fuzz(func(t *testing.T, s string) {
		wantSamePairs(t, "fuzzed", s)
		s = "\x00" + h3.Frame(h3.Settings, s)
		wantPieces(t, "fuzzed Settings", true, s[:len(s)/2], s[len(s)/2:])
	})
}
