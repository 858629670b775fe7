package prefix_test

import (
	"fmt"
	"math"
	"math/rand"
	"net/netip"
	"slices"
	"strings"
	"testing"

	"vizard/api"
	"vizard/prefix"
)

const (
	least    = uint32(0)
	greatest = uint32(math.MaxUint32)
)

// edgeAddrs are addresses at which bytes, signs of bytes and digits change.
var edgeAddrs = []uint32{
	0, 1, 2, 9, 10, 99, 100, 127, 128, 199, 200, 255, 256, 0xffff, 0x10000, 0xffffff, 0x1000000,
	0x0A000000, 0x0A000001, 0x0AFFFFFF, 0x0B000000, 0x01020304, 0x7fffffff, 0x80000000, 0x80000001,
	0xC0A80001, 0xffffff00, 0xfffffffe, greatest,
}

// wrongAddrs are texts that are no address's writing.
var wrongAddrs = []string{
	// nothing, and parts that are empty
	"", ".", "..", "...", "....", "10..0.1", ".0.0.1", "10.0.0.", "10.0..", ".10.0.0.1", "10.0.0.1.",
	// too few and too many parts
	"10", "10.0", "10.0.0", "10.0.0.1.2", "10.0.0.1.2.3", "167772161", "1.2.3.4.5.6.7.8",
	// noughts in front
	"010.0.0.1", "10.00.0.1", "10.0.00.1", "10.0.0.01", "00.0.0.0", "0.0.0.00", "000.0.0.0", "10.0.0.0255",
	// parts above 255
	"256.0.0.0", "0.256.0.0", "0.0.256.0", "0.0.0.256", "999.0.0.0", "1000.0.0.1", "10.0.0.4294967296", "10.0.0.4294967297",
	"10.0.0.18446744073709551617", "10.0.0.99999999999999999999999999",
	// other signs
	"-1.0.0.0", "-0.0.0.0", "+10.0.0.1", "10.+0.0.1", "10.0.0.-1", "10.0.0.+1", "0x0a.0.0.1", "10.0.0.0x1", "a.b.c.d", "10.0.0.a",
	"10.0.0.1a", "1_0.0.0.1", "10,0,0,1", "10:0:0:1", "::1", "::ffff:10.0.0.1", "10.0.0.1e0", "1e1.0.0.1", "10.0.0.\x00", "10.0.0.\xff",
	"10.0.0.\u0661", "\uff11\uff10.0.0.1", "10\u3002" + "0.0.1", "localhost",
	// something in front, behind or between
	" 10.0.0.1", "10.0.0.1 ", "10. 0.0.1", "10 .0.0.1", "\t10.0.0.1", "10.0.0.1\n", "x10.0.0.1", "10.0.0.1x", "10.0.0.1\x00",
	"10.0.0.1/", "10.0.0.1/32", "10.0.0.1:53", "[10.0.0.1]", "\ufeff10.0.0.1",
}

// wantText is an address's writing by another way.
func wantText(a uint32) string {
	return fmt.Sprintf("%d.%d.%d.%d", a>>24, a>>16&255, a>>8&255, a&255)
}

// wantCheck goes through the bits one by one.
func wantCheck(p api.Prefix) bool {
	if p.Bits < 0 || p.Bits > 32 {
		return false
	}
	for place := p.Bits; place < 32; place++ {
		if bitAt(p.Addr, place) != 0 {
			return false
		}
	}
	return true
}

// bitAt is an address's bit at a place, from the highest on.
func bitAt(a uint32, place int) int {
	return int(a>>(31-place)) & 1
}

// wantHas holds the first bits against one another one by one.
func wantHas(p api.Prefix, a uint32) bool {
	if !wantCheck(p) {
		return false
	}
	for place := 0; place < p.Bits; place++ {
		if bitAt(a, place) != bitAt(p.Addr, place) {
			return false
		}
	}
	return true
}

// wantEnds reckons with how many addresses a prefix has.
func wantEnds(p api.Prefix) (uint32, uint32) {
	if !wantCheck(p) {
		return 0, 0
	}
	count := uint64(math.Pow(2, float64(32-p.Bits)))
	return p.Addr, uint32(uint64(p.Addr) + count - 1)
}

// wantCover halves the prefix of all addresses until each piece lies within the ends or beside them.
func wantCover(low, high uint32) []api.Prefix {
	return halve(api.Prefix{}, low, high)
}

func halve(p api.Prefix, low, high uint32) []api.Prefix {
	first, last := wantEnds(p)
	if low > high || last < low || first > high {
		return nil
	}
	if low <= first && last <= high {
		return []api.Prefix{p}
	}
	lower := api.Prefix{Addr: p.Addr, Bits: p.Bits + 1}
	upper := api.Prefix{Addr: p.Addr | 1<<(31-p.Bits), Bits: p.Bits + 1}
	return append(halve(lower, low, high), halve(upper, low, high)...)
}

// fewest is how many prefixes are needed at least, by trying all that begin at each address.
func fewest(low, high uint32) int {
	size := int(high - low)
	best := make([]int, size+2)
	for i := size; i >= 0; i-- {
		best[i] = size + 2
		for bits := 0; bits <= 32; bits++ {
			p := api.Prefix{Addr: low + uint32(i), Bits: bits}
			_, last := wantEnds(p)
			if wantCheck(p) && last <= high {
				best[i] = min(best[i], 1+best[last-low+1])
			}
		}
	}
	return best[0]
}

// rightPrefix is the prefix of so many bits in which an address is.
func rightPrefix(a uint32, bits int) api.Prefix {
	return api.Prefix{Addr: a >> (32 - bits) << (32 - bits), Bits: bits}
}

// somePrefixes are right ones and others of every count of bits.
func somePrefixes() []api.Prefix {
	var all []api.Prefix
	counts := []int{math.MinInt, math.MinInt32, -65, -64, -33, -32, -31, -1, 33, 34, 63, 64, 65, 255, 256, 288, math.MaxInt32, math.MaxInt}
	for bits := 0; bits <= 32; bits++ {
		counts = append(counts, bits)
	}
	for _, bits := range counts {
		for _, a := range edgeAddrs {
			all = append(all, api.Prefix{Addr: a, Bits: bits})
			if bits >= 0 && bits <= 32 {
				all = append(all, rightPrefix(a, bits))
			}
		}
	}
	return all
}

// wrongPrefixes are some that are not right.
func wrongPrefixes() []api.Prefix {
	return slices.DeleteFunc(somePrefixes(), wantCheck)
}

// rightPrefixes are some that are.
func rightPrefixes() []api.Prefix {
	return slices.DeleteFunc(somePrefixes(), func(p api.Prefix) bool { return !wantCheck(p) })
}

// TestText is promise 4.1, of Text.
func TestText(t *testing.T) {
	for a, want := range map[uint32]string{
		least:      "0.0.0.0",
		greatest:   "255.255.255.255",
		0x0A000001: "10.0.0.1",
		0x01020304: "1.2.3.4",
		0x64C8FF09: "100.200.255.9",
		0x80000000: "128.0.0.0",
		0x00000080: "0.0.0.128",
	} {
		if got := prefix.Text(a); got != want {
			t.Errorf("Text(%08x) = %q, want %q", a, got, want)
		}
	}
	for _, a := range edgeAddrs {
		if got := prefix.Text(a); got != wantText(a) {
			t.Errorf("Text(%08x) = %q, want %q", a, got, wantText(a))
		}
	}
}

// TestParts is promise 4.1, of each number that a byte can be, at each place.
func TestParts(t *testing.T) {
	for place := range 4 {
		for n := range 256 {
			a := uint32(n) << (24 - 8*place)
			checkWriting(t, a)
			checkWriting(t, a|0x01020304&^(0xff<<(24-8*place)))
		}
	}
}

// checkWriting holds both ways between an address and its writing.
func checkWriting(t *testing.T, a uint32) {
	t.Helper()
	s := wantText(a)
	if got := prefix.Text(a); got != s {
		t.Errorf("Text(%08x) = %q, want %q", a, got, s)
	}
	if got, ok := prefix.Parse(s); got != a || !ok {
		t.Errorf("Parse(%q) = %08x, %v, want %08x, true", s, got, ok, a)
	}
}

// TestParse is promise 4.1, of Parse at writings.
func TestParse(t *testing.T) {
	for s, want := range map[string]uint32{
		"0.0.0.0":         least,
		"255.255.255.255": greatest,
		"10.0.0.1":        0x0A000001,
		"1.2.3.4":         0x01020304,
		"100.200.255.9":   0x64C8FF09,
	} {
		if got, ok := prefix.Parse(s); got != want || !ok {
			t.Errorf("Parse(%q) = %08x, %v, want %08x, true", s, got, ok, want)
		}
	}
}

// TestParseWrong is promise 4.1, of Parse at other texts: 0 and false.
func TestParseWrong(t *testing.T) {
	long := []string{
		strings.Repeat("1", 1<<20), strings.Repeat(".", 1<<20), strings.Repeat("1.", 1<<20),
		"10.0.0." + strings.Repeat("0", 1<<16) + "1", "10.0.0.1" + strings.Repeat("0", 1<<16),
	}
	for _, s := range append(long, wrongAddrs...) {
		if got, ok := prefix.Parse(s); got != 0 || ok {
			t.Errorf("Parse(%.40x) = %08x, %v, want 0, false", s, got, ok)
		}
	}
}

// TestParseDamaged is promise 4.1, of writings with one byte put in, taken out or changed: netip takes the same writings.
func TestParseDamaged(t *testing.T) {
	for _, a := range edgeAddrs {
		s := wantText(a)
		for place := range len(s) + 1 {
			for b := range 256 {
				checkParse(t, s[:place]+string([]byte{byte(b)})+s[place:])
				if place < len(s) {
					checkParse(t, s[:place]+string([]byte{byte(b)})+s[place+1:])
				}
			}
			if place < len(s) {
				checkParse(t, s[:place]+s[place+1:])
			}
		}
	}
}

// checkParse holds Parse against the library's reader.
func checkParse(t *testing.T, s string) {
	t.Helper()
	want, wantOk := uint32(0), false
	if addr, err := netip.ParseAddr(s); err == nil && addr.Is4() {
		b := addr.As4()
		want, wantOk = uint32(b[0])<<24|uint32(b[1])<<16|uint32(b[2])<<8|uint32(b[3]), true
	}
	if got, ok := prefix.Parse(s); got != want || ok != wantOk {
		t.Errorf("Parse(%x) = %08x, %v, want %08x, %v", s, got, ok, want, wantOk)
	}
}

// TestCheck is promise 4.2, of Check: the edges of Bits, and a bit behind the first ones.
func TestCheck(t *testing.T) {
	for _, c := range []struct {
		p    api.Prefix
		want bool
	}{
		{api.Prefix{Addr: 0x0A000000, Bits: 8}, true},
		{api.Prefix{Addr: 0x0A000001, Bits: 8}, false},
		{api.Prefix{Addr: 0x0A800000, Bits: 8}, false},
		{api.Prefix{Addr: 0x0A000000, Bits: 7}, true},
		{api.Prefix{Addr: 0x0A000000, Bits: 6}, false},
		{api.Prefix{}, true},
		{api.Prefix{Addr: 1}, false},
		{api.Prefix{Addr: 0x80000000}, false},
		{api.Prefix{Addr: 0x80000000, Bits: 1}, true},
		{api.Prefix{Bits: 32}, true},
		{api.Prefix{Addr: greatest, Bits: 32}, true},
		{api.Prefix{Addr: greatest, Bits: 31}, false},
		{api.Prefix{Bits: -1}, false},
		{api.Prefix{Bits: 33}, false},
		{api.Prefix{Addr: greatest, Bits: 33}, false},
		{api.Prefix{Addr: greatest, Bits: -1}, false},
	} {
		if got := prefix.Check(c.p); got != c.want {
			t.Errorf("Check(%08x/%d) = %v", c.p.Addr, c.p.Bits, got)
		}
	}
	for _, p := range somePrefixes() {
		if got := prefix.Check(p); got != wantCheck(p) {
			t.Errorf("Check(%08x/%d) = %v", p.Addr, p.Bits, got)
		}
	}
}

// TestCheckEachBit is promise 4.2: one bit set is right within the first Bits alone.
func TestCheckEachBit(t *testing.T) {
	for bits := 0; bits <= 32; bits++ {
		for place := range 32 {
			p := api.Prefix{Addr: 1 << (31 - place), Bits: bits}
			if got := prefix.Check(p); got != (place < bits) {
				t.Errorf("Check(%08x/%d) = %v", p.Addr, p.Bits, got)
			}
		}
	}
}

// TestHas is promise 4.2, of Has: the ends of prefixes, and the addresses next to them.
func TestHas(t *testing.T) {
	ten := api.Prefix{Addr: 0x0A000000, Bits: 8}
	for a, want := range map[uint32]bool{
		0x0A000000: true, 0x0AFFFFFF: true, 0x0A010203: true,
		0x09FFFFFF: false, 0x0B000000: false, least: false, greatest: false, 0x8A000000: false,
	} {
		if got := prefix.Has(ten, a); got != want {
			t.Errorf("Has(10.0.0.0/8, %s) = %v", wantText(a), got)
		}
	}
	for _, p := range rightPrefixes() {
		first, last := wantEnds(p)
		for _, a := range append([]uint32{first, first + 1, first - 1, last, last - 1, last + 1}, edgeAddrs...) {
			if got := prefix.Has(p, a); got != wantHas(p, a) {
				t.Errorf("Has(%08x/%d, %08x) = %v", p.Addr, p.Bits, a, got)
			}
		}
	}
}

// TestEnds is promise 4.2, of Ends.
func TestEnds(t *testing.T) {
	for _, c := range []struct {
		p           api.Prefix
		first, last uint32
	}{
		{api.Prefix{Addr: 0x0A000000, Bits: 8}, 0x0A000000, 0x0AFFFFFF},
		{api.Prefix{}, least, greatest},
		{api.Prefix{Addr: 0x80000000, Bits: 1}, 0x80000000, greatest},
		{api.Prefix{Bits: 1}, least, 0x7fffffff},
		{api.Prefix{Addr: 0x0A000002, Bits: 31}, 0x0A000002, 0x0A000003},
		{api.Prefix{Addr: greatest, Bits: 32}, greatest, greatest},
		{api.Prefix{Bits: 32}, least, least},
	} {
		if first, last := prefix.Ends(c.p); first != c.first || last != c.last {
			t.Errorf("Ends(%08x/%d) = %08x, %08x", c.p.Addr, c.p.Bits, first, last)
		}
	}
	for _, p := range rightPrefixes() {
		wantFirst, wantLast := wantEnds(p)
		if first, last := prefix.Ends(p); first != wantFirst || last != wantLast {
			t.Errorf("Ends(%08x/%d) = %08x, %08x, want %08x, %08x", p.Addr, p.Bits, first, last, wantFirst, wantLast)
		}
	}
}

// TestNotRight is promises 4.2 and 4.4 of a prefix that is not right: nothing is in it, it has no ends and no writing.
func TestNotRight(t *testing.T) {
	for _, p := range wrongPrefixes() {
		for _, a := range append([]uint32{p.Addr}, edgeAddrs...) {
			if prefix.Has(p, a) {
				t.Errorf("Has(%08x/%d, %08x)", p.Addr, p.Bits, a)
			}
		}
		if first, last := prefix.Ends(p); first != 0 || last != 0 {
			t.Errorf("Ends(%08x/%d) = %08x, %08x", p.Addr, p.Bits, first, last)
		}
		if s := prefix.Print(p); s != "" {
			t.Errorf("Print(%08x/%d) = %q", p.Addr, p.Bits, s)
		}
	}
}

// TestCover is promise 4.3: the chapter's example, and the ends of all addresses.
func TestCover(t *testing.T) {
	for _, c := range []struct {
		low, high uint32
		want      []api.Prefix
	}{
		{0x0A000001, 0x0A000004, []api.Prefix{{Addr: 0x0A000001, Bits: 32}, {Addr: 0x0A000002, Bits: 31}, {Addr: 0x0A000004, Bits: 32}}},
		{least, greatest, []api.Prefix{{}}},
		{least, least, []api.Prefix{{Bits: 32}}},
		{greatest, greatest, []api.Prefix{{Addr: greatest, Bits: 32}}},
		{0x0A000001, 0x0A000001, []api.Prefix{{Addr: 0x0A000001, Bits: 32}}},
		{0x0A000000, 0x0AFFFFFF, []api.Prefix{{Addr: 0x0A000000, Bits: 8}}},
		{least, 1, []api.Prefix{{Bits: 31}}},
		{1, 2, []api.Prefix{{Addr: 1, Bits: 32}, {Addr: 2, Bits: 32}}},
		{greatest - 1, greatest, []api.Prefix{{Addr: greatest - 1, Bits: 31}}},
		{greatest - 2, greatest, []api.Prefix{{Addr: greatest - 2, Bits: 32}, {Addr: greatest - 1, Bits: 31}}},
		{0x80000000, greatest, []api.Prefix{{Addr: 0x80000000, Bits: 1}}},
		{0x7fffffff, 0x80000000, []api.Prefix{{Addr: 0x7fffffff, Bits: 32}, {Addr: 0x80000000, Bits: 32}}},
	} {
		if got := prefix.Cover(c.low, c.high); !slices.Equal(got, c.want) {
			t.Errorf("Cover(%08x, %08x) = %v, want %v", c.low, c.high, got, c.want)
		}
	}
}

// TestCoverNone is promise 4.3: none, if low is above high.
func TestCoverNone(t *testing.T) {
	for _, c := range [][2]uint32{{1, 0}, {greatest, 0}, {greatest, greatest - 1}, {0x0A000004, 0x0A000001}, {0x80000000, 0x7fffffff}} {
		if got := prefix.Cover(c[0], c[1]); len(got) != 0 {
			t.Errorf("Cover(%08x, %08x) = %v, want none", c[0], c[1], got)
		}
	}
}

// TestCoverMost is promises 4.3 and 4.5: all addresses but the first and the last need 62 prefixes, the most there are.
func TestCoverMost(t *testing.T) {
	got := prefix.Cover(least+1, greatest-1)
	if len(got) != 62 {
		t.Fatalf("%d prefixes, want 62", len(got))
	}
	for i, p := range got {
		// Up to the middle the prefixes double, behind it they are halved.
		want := api.Prefix{Addr: 1 << i, Bits: 32 - i}
		if i > 30 {
			want = api.Prefix{Addr: greatest << (62 - i), Bits: i - 29}
		}
		if p != want {
			t.Errorf("the prefix %d is %08x/%d, want %08x/%d", i, p.Addr, p.Bits, want.Addr, want.Bits)
		}
	}
	checkCover(t, least+1, greatest-1)
}

// TestCoverEdges is promises 4.3 and 4.5 between all edges.
func TestCoverEdges(t *testing.T) {
	for _, low := range edgeAddrs {
		for _, high := range edgeAddrs {
			checkCover(t, low, high)
		}
	}
}

// TestCoverFewest is promise 4.3 between addresses that are near to one another: no fewer prefixes would do.
func TestCoverFewest(t *testing.T) {
	for _, base := range []uint32{least, 0x0A0000F0, 0x7fffffe0, greatest - 40} {
		for i := range uint32(41) {
			for j := i; j <= 40; j++ {
				low, high := base+i, base+j
				if got, want := len(prefix.Cover(low, high)), fewest(low, high); got != want {
					t.Errorf("Cover(%08x, %08x) has %d prefixes, want %d", low, high, got, want)
				}
				checkCover(t, low, high)
			}
		}
	}
}

// TestCoverRandom is promises 4.3 and 4.5 between any addresses.
func TestCoverRandom(t *testing.T) {
	random := rand.New(rand.NewSource(4))
	for range 5000 {
		// Addresses of which the last bits are all 0 or all 1 lie where prefixes end.
		low, high := random.Uint32()>>random.Intn(32), random.Uint32()>>random.Intn(32)
		checkCover(t, low, high)
		checkCover(t, low>>random.Intn(32)<<random.Intn(32), high|greatest>>random.Intn(32))
	}
}

// checkCover holds a cover against the halved one, and says 4.5 of it.
func checkCover(t *testing.T, low, high uint32) {
	t.Helper()
	got := prefix.Cover(low, high)
	if want := wantCover(low, high); !slices.Equal(got, want) {
		t.Errorf("Cover(%08x, %08x) = %v, want %v", low, high, got, want)
	}
	if len(got) > 62 {
		t.Errorf("Cover(%08x, %08x) has %d prefixes", low, high, len(got))
	}
	next := uint64(low)
	for _, p := range got {
		first, last := wantEnds(p)
		if !wantCheck(p) || uint64(first) != next {
			t.Errorf("Cover(%08x, %08x) = %v: %08x/%d doesn't go on where the one ahead ends", low, high, got, p.Addr, p.Bits)
		}
		next = uint64(last) + 1
	}
	if low <= high && next != uint64(high)+1 {
		t.Errorf("Cover(%08x, %08x) = %v: ends ahead of %08x", low, high, got, next)
	}
	for _, a := range []uint32{low - 1, low, low + (high-low)/2, high, high + 1, least, greatest} {
		checkMember(t, got, low, high, a)
	}
}

// checkMember is promise 4.5: an address from low to high is in just one prefix, another one in none.
func checkMember(t *testing.T, cover []api.Prefix, low, high, a uint32) {
	t.Helper()
	want := 0
	if low <= a && a <= high {
		want = 1
	}
	count := 0
	for _, p := range cover {
		if prefix.Has(p, a) {
			count++
		}
	}
	if count != want {
		t.Errorf("Cover(%08x, %08x): %08x is in %d prefixes, want %d", low, high, a, count, want)
	}
}

// TestCoverMembers is promise 4.5 of each address around a small row.
func TestCoverMembers(t *testing.T) {
	for _, base := range []uint32{0x0A000000, greatest - 63} {
		for _, ends := range [][2]uint32{{1, 62}, {0, 63}, {5, 40}, {31, 32}, {7, 7}, {40, 5}} {
			low, high := base+ends[0], base+ends[1]
			cover := prefix.Cover(low, high)
			for i := range uint32(128) {
				checkMember(t, cover, low, high, base-32+i)
			}
		}
	}
}

// TestCoverNewMemory is rule R4: what is done to an answer is not seen in another.
func TestCoverNewMemory(t *testing.T) {
	first := prefix.Cover(1, 1000)
	second := prefix.Cover(1, 1000)
	for i := range first {
		first[i] = api.Prefix{Addr: 7, Bits: 7}
	}
	if want := wantCover(1, 1000); !slices.Equal(second, want) || !slices.Equal(prefix.Cover(1, 1000), want) {
		t.Errorf("an answer was changed by another one's change")
	}
}

// TestPrint is promise 4.4, of Print.
func TestPrint(t *testing.T) {
	for p, want := range map[api.Prefix]string{
		{Addr: 0x0A000000, Bits: 8}:  "10.0.0.0/8",
		{}:                           "0.0.0.0/0",
		{Bits: 32}:                   "0.0.0.0/32",
		{Addr: greatest, Bits: 32}:   "255.255.255.255/32",
		{Addr: 0x80000000, Bits: 1}:  "128.0.0.0/1",
		{Addr: 0xC0A80100, Bits: 24}: "192.168.1.0/24",
		{Addr: 0x0A000001, Bits: 8}:  "",
		{Addr: 0x0A000000, Bits: -1}: "",
		{Addr: 0x0A000000, Bits: 33}: "",
	} {
		if got := prefix.Print(p); got != want {
			t.Errorf("Print(%08x/%d) = %q, want %q", p.Addr, p.Bits, got, want)
		}
	}
}

// TestPrintRead is promises 4.4 and 4.5, of all counts of bits: both ways between a prefix and its writing.
func TestPrintRead(t *testing.T) {
	for _, p := range rightPrefixes() {
		want := fmt.Sprintf("%s/%d", wantText(p.Addr), p.Bits)
		if got := prefix.Print(p); got != want {
			t.Errorf("Print(%08x/%d) = %q, want %q", p.Addr, p.Bits, got, want)
		}
		if got, ok := prefix.Read(want); got != p || !ok {
			t.Errorf("Read(%q) = %v, %v, want %v, true", want, got, ok, p)
		}
	}
}

// TestReadWrong is promise 4.4, of texts that are no right prefix's writing: none and false.
func TestReadWrong(t *testing.T) {
	wrong := []string{
		// without /, and with two
		"", "10.0.0.0", "10.0.0.08", "8", "/", "//", "10.0.0.0//8", "10.0.0.0/8/", "10.0.0.0/8/8", "/10.0.0.0/8", "10.0.0.0/0/", "10/0.0.0/8",
		// one part alone
		"10.0.0.0/", "/8", "/0",
		// Bits with noughts in front, with signs, without digits
		"10.0.0.0/08", "10.0.0.0/008", "0.0.0.0/00", "10.0.0.0/032", "10.0.0.0/+8", "10.0.0.0/-8", "0.0.0.0/-0", "0.0.0.0/+0", "0.0.0.0/-1",
		"10.0.0.0/a", "10.0.0.0/0x8", "10.0.0.0/8a", "10.0.0.0/8.0", "10.0.0.0/8 ", "10.0.0.0/ 8", "10.0.0.0 /8", " 10.0.0.0/8", "10.0.0.0/1_6",
		"10.0.0.0/8\x00", "10.0.0.0/\xff", "10.0.0.0/\u0668", "10.0.0.0\\8", "10.0.0.0/255.0.0.0", "10.0.0.0/8\n", "x10.0.0.0/8", "10.0.0.0/8x",
		// Bits above 32
		"0.0.0.0/33", "10.0.0.0/33", "10.0.0.0/64", "10.0.0.0/99", "10.0.0.0/256", "10.0.0.0/264", "10.0.0.0/4294967304", "10.0.0.0/18446744073709551624",
		// a bit set behind the first ones
		"10.0.0.1/8", "10.0.0.0/6", "0.0.0.1/0", "128.0.0.0/0", "255.255.255.255/31", "192.168.1.128/24", "0.0.0.1/31",
		// longer than anything
		strings.Repeat("/", 1<<20), "10.0.0.0/" + strings.Repeat("0", 1<<20), "10.0.0.0/8" + strings.Repeat("0", 1<<20),
	}
	for _, s := range wrongAddrs {
		wrong = append(wrong, s+"/32", s+"/0", s+"/8")
	}
	for _, s := range wrong {
		if got, ok := prefix.Read(s); got != (api.Prefix{}) || ok {
			t.Errorf("Read(%.40x) = %v, %v, want none and false", s, got, ok)
		}
	}
}

// TestReadNotRight is promise 4.4, of what would be the writing of a prefix that is not right.
func TestReadNotRight(t *testing.T) {
	for _, p := range wrongPrefixes() {
		s := fmt.Sprintf("%s/%d", wantText(p.Addr), p.Bits)
		if got, ok := prefix.Read(s); got != (api.Prefix{}) || ok {
			t.Errorf("Read(%q) = %v, %v, want none and false", s, got, ok)
		}
	}
}

// TestThere is promise 4.5, of any addresses and prefixes: there and back.
func TestThere(t *testing.T) {
	random := rand.New(rand.NewSource(5))
	for range 20000 {
		a := random.Uint32() >> random.Intn(32)
		if got, ok := prefix.Parse(prefix.Text(a)); got != a || !ok {
			t.Errorf("Parse(Text(%08x)) = %08x, %v", a, got, ok)
		}
		p := rightPrefix(random.Uint32(), random.Intn(33))
		if got, ok := prefix.Read(prefix.Print(p)); got != p || !ok {
			t.Errorf("Read(Print(%08x/%d)) = %v, %v", p.Addr, p.Bits, got, ok)
		}
		if first, last := prefix.Ends(p); !slices.Equal(prefix.Cover(first, last), []api.Prefix{p}) {
			t.Errorf("Cover of the ends of %08x/%d is another", p.Addr, p.Bits)
		}
	}
}

// FuzzTexts is promises 4.1 and 4.4 of any text: it is a writing, if and only if it is the one that comes out again.
func FuzzTexts(f *testing.F) {
	for _, s := range wrongAddrs {
		f.Add(s)
	}
	f.Add("10.0.0.1")
	f.Add("10.0.0.0/8")
	f.Add("255.255.255.255/32")
	f.Fuzz(func(t *testing.T, s string) {
		checkParse(t, s)
		want, err := netip.ParsePrefix(s)
		right := err == nil && want.Addr().Is4() && want == want.Masked()
		p, ok := prefix.Read(s)
		if ok != right {
			t.Errorf("Read(%x) = %v, %v", s, p, ok)
		}
		if ok && prefix.Print(p) != s {
			t.Errorf("Print(Read(%q)) = %q", s, prefix.Print(p))
		}
		if !ok && p != (api.Prefix{}) {
			t.Errorf("Read(%x) = %v beside false", s, p)
		}
	})
}

// FuzzNumbers is promises 4.2, 4.3 and 4.5 of any numbers.
func FuzzNumbers(f *testing.F) {
	for _, a := range edgeAddrs {
		f.Add(a, greatest, 8)
	}
	f.Fuzz(func(t *testing.T, a, b uint32, bits int) {
		p := api.Prefix{Addr: a, Bits: bits}
		if prefix.Check(p) != wantCheck(p) || prefix.Has(p, b) != wantHas(p, b) || (prefix.Print(p) == "") == wantCheck(p) {
			t.Errorf("%08x/%d: Check %v, Has(%08x) %v, Print %q", a, bits, prefix.Check(p), b, prefix.Has(p, b), prefix.Print(p))
		}
		checkCover(t, a, b)
	})
}
