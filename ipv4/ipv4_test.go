package ipv4_test

import (
	"encoding/binary"
	"math"
	"math/big"
	"math/rand"
	"strings"
	"testing"

	"vizard/api"
	"vizard/ipv4"
)

const (
	headerSize = 20
	maxData    = 65515
)

// plain is the packet of the chapter's examples.
var plain = api.Header{Ttl: 64, Proto: 17, Src: 0x0A000001, Dst: 0x0A000002, Data: "ab"}

const plainBytes = "\x45\x00\x00\x16\x00\x00\x00\x00\x40\x11\x66\xd5\x0a\x00\x00\x01\x0a\x00\x00\x02ab"

// distinct has another number in each byte, so that none can stand in another's place.
var distinct = api.Header{Tos: 0x01, Id: 0x0203, Frag: 0x0405, Ttl: 0x06, Proto: 0x07, Src: 0x08090a0b, Dst: 0x0c0d0e0f, Data: "\x10\x11\x12"}

// wantSum is the check sum by another way: adding carries below is the rest at a division by 65535, with 65535 itself for a rest of 0 unless all is 0.
func wantSum(s string) int {
	if len(s)%2 == 1 {
		s += "\x00"
	}
	total := new(big.Int)
	for i := 0; i < len(s); i += 2 {
		total.Add(total, big.NewInt(int64(binary.BigEndian.Uint16([]byte(s[i:i+2])))))
	}
	if total.Sign() == 0 {
		return 0xffff
	}
	rest := int(new(big.Int).Mod(total, big.NewInt(0xffff)).Int64())
	if rest == 0 {
		return 0
	}
	return 0xffff - rest
}

// wantBytes is a packet's bytes by another way, each at its place.
func wantBytes(h api.Header) string {
	b := make([]byte, headerSize)
	b[0] = 0x45
	b[1] = byte(h.Tos)
	binary.BigEndian.PutUint16(b[2:], uint16(headerSize+len(h.Data)))
	binary.BigEndian.PutUint16(b[4:], uint16(h.Id))
	binary.BigEndian.PutUint16(b[6:], uint16(h.Frag))
	b[8] = byte(h.Ttl)
	b[9] = byte(h.Proto)
	binary.BigEndian.PutUint32(b[12:], h.Src)
	binary.BigEndian.PutUint32(b[16:], h.Dst)
	binary.BigEndian.PutUint16(b[10:], uint16(wantSum(string(b))))
	return string(b) + h.Data
}

// resum is bytes with the check sum that they ought to have, for faults that are not the sum's.
func resum(s string) string {
	sum := wantSum(s[:10] + "\x00\x00" + s[12:headerSize])
	return s[:10] + string([]byte{byte(sum >> 8), byte(sum)}) + s[12:]
}

// with is bytes with others at a place.
func with(s string, place int, other string) string {
	return s[:place] + other + s[place+len(other):]
}

func mustBuild(t *testing.T, h api.Header) string {
	t.Helper()
	s, e := ipv4.Build(h)
	if e != api.OK {
		t.Fatalf("Build(%+v): error %d", h, e)
	}
	return s
}

func wantParse(t *testing.T, name, s string, want api.Header, errno api.Errno) {
	t.Helper()
	if h, e := ipv4.Parse(s); h != want || e != errno {
		t.Errorf("%s: Parse: %.200v, error %d; want %.200v, error %d", name, h, e, want, errno)
	}
}

func wantFault(t *testing.T, name, s string, errno api.Errno) {
	t.Helper()
	wantParse(t, name, s, api.Header{}, errno)
	if u, e := ipv4.Hop(s); u != "" || e != errno {
		t.Errorf("%s: Hop: %x, error %d; want error %d", name, u, e, errno)
	}
}

// TestSum is promise 2.1, of Sum.
func TestSum(t *testing.T) {
	for _, c := range []struct {
		name string
		s    string
		want int
	}{
		{"the example", "\x00\x01\xf2\x03\xf4\xf5\xf6\xf7", 0x220d},
		{"nothing", "", 0xffff},
		{"one byte", "\x01", 0xfeff},
		{"one byte 0", "\x00", 0xffff},
		{"one byte FF", "\xff", 0x00ff},
		{"the higher byte is first", "\x12\x34", 0xffff - 0x1234},
		{"three bytes", "\x12\x34\x56", 0xffff - 0x6834},
		{"three bytes and a 0", "\x12\x34\x56\x00", 0xffff - 0x6834},
		{"zeros", strings.Repeat("\x00", 20), 0xffff},
		{"the greatest number", "\xff\xff", 0},
		{"no carry yet", "\xff\xfe\x00\x01", 0},
		{"a carry", "\xff\xff\x00\x01", 0xfffe},
		{"a carry that makes FFFF", "\xff\xff\xff\xff", 0},
		{"a carry that makes a carry", "\xff\xff" + "\x00\x01" + "\xff\xff", 0xfffe},
		{"a carry behind the first folding", strings.Repeat("\xff\xff", 1<<16) + "\xff\xff", 0},
		{"many carries", strings.Repeat("\x80\x01", 1<<17), wantSum(strings.Repeat("\x80\x01", 1<<17))},
		{"an odd byte of very many", strings.Repeat("\xff", 1<<20+1), wantSum(strings.Repeat("\xff", 1<<20+1))},
	} {
		if n := ipv4.Sum(c.s); n != c.want {
			t.Errorf("%s: Sum %04x, want %04x", c.name, n, c.want)
		}
	}
}

func TestSumOfAnyBytes(t *testing.T) {
	random := rand.New(rand.NewSource(2))
	for size := range 600 {
		b := make([]byte, size)
		random.Read(b)
		if n := ipv4.Sum(string(b)); n != wantSum(string(b)) {
			t.Fatalf("Sum(%x): %04x, want %04x", b, n, wantSum(string(b)))
		}
	}
	// Two numbers whose sum goes round FFFF show a carry that is lost or added twice.
	for high := range 0x10000 {
		s := string([]byte{byte(high >> 8), byte(high), 0xff, 0xf0})
		if n := ipv4.Sum(s); n != wantSum(s) {
			t.Fatalf("Sum(%x): %04x, want %04x", s, n, wantSum(s))
		}
	}
}

// TestBuild is promise 2.1, of Build.
func TestBuild(t *testing.T) {
	if s := mustBuild(t, plain); s != plainBytes {
		t.Errorf("the example: %x", s)
	}
	if s := mustBuild(t, distinct); s[:10] != "\x45\x01\x00\x17\x02\x03\x04\x05\x06\x07" || s[12:] != "\x08\x09\x0a\x0b\x0c\x0d\x0e\x0f\x10\x11\x12" {
		t.Errorf("bytes are not in their places: %x", s)
	}
	for _, h := range rightHeaders() {
		if s := mustBuild(t, h); s != wantBytes(h) {
			t.Errorf("Build(%.200v): %.40x, want %.40x", h, s, wantBytes(h))
		}
	}
}

// rightHeaders have each number at its least, its greatest and one within.
func rightHeaders() []api.Header {
	out := []api.Header{{}, plain, distinct}
	for _, n := range []int{0, 1, 2, 0x7f, 0x80, 254, 255} {
		tos, ttl, proto := distinct, distinct, distinct
		tos.Tos, ttl.Ttl, proto.Proto = n, n, n
		out = append(out, tos, ttl, proto)
	}
	for _, n := range []int{0, 1, 255, 256, 0x7fff, 0x8000, 65534, 65535} {
		id, frag := distinct, distinct
		id.Id, frag.Frag = n, n
		out = append(out, id, frag)
	}
	for _, n := range []uint32{0, 1, 0x7fffffff, 0x80000000, math.MaxUint32} {
		src, dst := distinct, distinct
		src.Src, dst.Dst = n, n
		out = append(out, src, dst)
	}
	for _, size := range []int{0, 1, 2, 3, 235, 236, maxData - 1, maxData} {
		h := distinct
		h.Data = strings.Repeat("\xa5", size)
		out = append(out, h)
	}
	all := api.Header{Tos: 255, Id: 65535, Frag: 65535, Ttl: 255, Proto: 255, Src: math.MaxUint32, Dst: math.MaxUint32, Data: strings.Repeat("\xff", maxData)}
	return append(out, all)
}

// setters are those numbers of a header that can be out of their range, and the greatest of each.
var setters = []struct {
	name  string
	set   func(h *api.Header, n int)
	great int
}{
	{"Tos", func(h *api.Header, n int) { h.Tos = n }, 255},
	{"Ttl", func(h *api.Header, n int) { h.Ttl = n }, 255},
	{"Proto", func(h *api.Header, n int) { h.Proto = n }, 255},
	{"Id", func(h *api.Header, n int) { h.Id = n }, 65535},
	{"Frag", func(h *api.Header, n int) { h.Frag = n }, 65535},
}

func TestBuildRefuses(t *testing.T) {
	refused := func(name string, h api.Header, want api.Errno) {
		t.Helper()
		if s, e := ipv4.Build(h); s != "" || e != want {
			t.Errorf("%s: Build: %.40x, error %d; want error %d", name, s, e, want)
		}
	}
	for _, c := range setters {
		for _, n := range []int{-1, c.great + 1, -c.great, -c.great - 1, 2 * (c.great + 1), 1 << 32, math.MinInt, math.MaxInt} {
			h := distinct
			c.set(&h, n)
			refused(c.name, h, api.ErrRange)
			h.Data = strings.Repeat("x", maxData+1)
			refused(c.name+" and too long", h, api.ErrRange)
		}
	}
	for _, more := range []int{1, 2, 20, 21, 1 << 16, 1 << 17} {
		h := plain
		h.Data = strings.Repeat("x", maxData+more)
		refused("too long", h, api.ErrLong)
	}
}

// TestParse is promise 2.2, of what is right.
func TestParse(t *testing.T) {
	wantParse(t, "the example", plainBytes, plain, api.OK)
	for _, h := range rightHeaders() {
		wantParse(t, "a right one", wantBytes(h), h, api.OK)
	}
}

// TestParseRefuses is promise 2.2, of what is wrong.
func TestParseRefuses(t *testing.T) {
	bare := wantBytes(api.Header{Ttl: 9, Proto: 1, Src: 1, Dst: 2})
	if len(bare) != headerSize {
		t.Fatalf("a bare header of %d bytes", len(bare))
	}
	for size := range headerSize {
		wantFault(t, "a header that ends early", plainBytes[:size], api.ErrShort)
		wantFault(t, "zeros", strings.Repeat("\x00", size), api.ErrShort)
	}
	for first := range 256 {
		if first == 0x45 {
			continue
		}
		s := resum(with(bare, 0, string([]byte{byte(first)})))
		wantFault(t, "another first byte", s, api.ErrField)
	}
	for said := range headerSize {
		length := string([]byte{0, byte(said)})
		wantFault(t, "fewer than 20 said, 20 there", resum(with(bare, 2, length)), api.ErrShort)
		wantFault(t, "fewer than 20 said, more there", resum(with(plainBytes, 2, length)), api.ErrShort)
	}
	wantFault(t, "21 said, 20 there", resum(with(bare, 2, "\x00\x15")), api.ErrShort)
	wantFault(t, "276 said, 20 there", resum(with(bare, 2, "\x01\x14")), api.ErrShort)
	wantFault(t, "65535 said, 20 there", resum(with(bare, 2, "\xff\xff")), api.ErrShort)
	wantFault(t, "23 said, 22 there", resum(with(plainBytes, 2, "\x00\x17")), api.ErrShort)
	wantFault(t, "22 said, 21 there", plainBytes[:21], api.ErrShort)
	wantFault(t, "20 said, 21 there", bare+"\x00", api.ErrMore)
	wantFault(t, "22 said, 23 there", plainBytes+"c", api.ErrMore)
	wantFault(t, "21 said, 22 there", resum(with(plainBytes, 2, "\x00\x15")), api.ErrMore)
	whole := wantBytes(api.Header{Data: strings.Repeat("x", maxData)})
	wantFault(t, "65535 said, 65534 there", whole[:len(whole)-1], api.ErrShort)
	wantFault(t, "65535 said, 65536 there", whole+"x", api.ErrMore)
	wantFault(t, "20 said, 65556 there", bare+strings.Repeat("x", 1<<16), api.ErrMore)
}

// TestParseOrder: of several faults the one that the chapter names first is told.
func TestParseOrder(t *testing.T) {
	wantFault(t, "short, and another first byte", "\x46"+plainBytes[1:19], api.ErrShort)
	wantFault(t, "another first byte, and a length of 0", with(plainBytes, 0, "\x46\x00\x00\x00"), api.ErrField)
	wantFault(t, "another first byte, and too many", "\x44"+plainBytes[1:]+"c", api.ErrField)
	wantFault(t, "another first byte, and a wrong sum", "\x44"+plainBytes[1:], api.ErrField)
	wantFault(t, "a length of 19, too many, and a wrong sum", with(plainBytes, 2, "\x00\x13"), api.ErrShort)
	wantFault(t, "fewer than said, and a wrong sum", with(plainBytes, 2, "\x00\x17"), api.ErrShort)
	wantFault(t, "more than said, and a wrong sum", with(plainBytes, 2, "\x00\x15"), api.ErrMore)
}

// TestParseSum is promise 2.2, of the check sum.
func TestParseSum(t *testing.T) {
	for sum := range 0x10000 {
		if sum == 0x66d5 {
			continue
		}
		s := with(plainBytes, 10, string([]byte{byte(sum >> 8), byte(sum)}))
		if h, e := ipv4.Parse(s); h != (api.Header{}) || e != api.ErrSum {
			t.Fatalf("a sum of %04x: %v, error %d", sum, h, e)
		}
	}
	// Id is what the others leave to FFFF, so that the sum is 0.
	zero := plain
	zero.Id = 0x66d5
	s := mustBuild(t, zero)
	if s[10:12] != "\x00\x00" {
		t.Fatalf("a sum of %x, want 0", s[10:12])
	}
	wantParse(t, "a sum of 0", s, zero, api.OK)
	wantFault(t, "a sum of FFFF for 0", with(s, 10, "\xff\xff"), api.ErrSum)
	wantFault(t, "zeros behind the first byte", "\x45\x00\x00\x14"+strings.Repeat("\x00", 16), api.ErrSum)
	// The data is not summed.
	other := plainBytes[:20] + "zz"
	h := plain
	h.Data = "zz"
	wantParse(t, "other data", other, h, api.OK)
}

// TestHop is promise 2.3.
func TestHop(t *testing.T) {
	u, e := ipv4.Hop(plainBytes)
	if want := "\x45\x00\x00\x16\x00\x00\x00\x00\x3f\x11\x67\xd5\x0a\x00\x00\x01\x0a\x00\x00\x02ab"; u != want || e != api.OK {
		t.Errorf("the example: %x, error %d", u, e)
	}
	for ttl := range 256 {
		h := distinct
		h.Ttl = ttl
		u, e := ipv4.Hop(wantBytes(h))
		if ttl < 2 {
			if u != "" || e != api.ErrRange {
				t.Errorf("Hop at Ttl %d: %x, error %d", ttl, u, e)
			}
			continue
		}
		h.Ttl--
		if u != wantBytes(h) || e != api.OK {
			t.Errorf("Hop at Ttl %d: %x, error %d; want %x", ttl, u, e, wantBytes(h))
		}
	}
}

// TestHopOrder: what Parse says comes ahead of a Ttl that is at its end.
func TestHopOrder(t *testing.T) {
	h := plain
	for ttl := range 2 {
		h.Ttl = ttl
		s := wantBytes(h)
		wantFault(t, "another first byte", "\x46"+s[1:], api.ErrField)
		wantFault(t, "too few", s[:21], api.ErrShort)
		wantFault(t, "too many", s+"c", api.ErrMore)
		wantFault(t, "a wrong sum", with(s, 10, "\x00\x00"), api.ErrSum)
	}
}

// TestRoundTrip is promise 2.4: of Parse and Build, and what Hop changes.
func TestRoundTrip(t *testing.T) {
	random := rand.New(rand.NewSource(4))
	for range 2000 {
		data := make([]byte, random.Intn(40))
		random.Read(data)
		h := api.Header{Tos: random.Intn(256), Id: random.Intn(65536), Frag: random.Intn(65536), Ttl: random.Intn(256), Proto: random.Intn(256), Src: random.Uint32(), Dst: random.Uint32(), Data: string(data)}
		s := mustBuild(t, h)
		wantParse(t, "what was built", s, h, api.OK)
		checkHop(t, s)
	}
	for _, h := range rightHeaders() {
		s := mustBuild(t, h)
		wantParse(t, "what was built", s, h, api.OK)
		checkHop(t, s)
	}
}

// checkHop holds a packet a hop further against the one that was, byte by byte.
func checkHop(t *testing.T, s string) {
	t.Helper()
	u, e := ipv4.Hop(s)
	if s[8] <= 1 {
		if u != "" || e != api.ErrRange {
			t.Fatalf("Hop(%.40x): %.40x, error %d", s, u, e)
		}
		return
	}
	if e != api.OK || len(u) != len(s) {
		t.Fatalf("Hop(%.40x): %.40x, error %d", s, u, e)
	}
	if u[:8] != s[:8] || u[8] != s[8]-1 || u[9] != s[9] || u[12:] != s[12:] {
		t.Fatalf("Hop(%.40x) changes more than the ninth byte and the sum: %.40x", s, u)
	}
	if u != resum(u) {
		t.Fatalf("Hop(%.40x): a wrong sum: %.40x", s, u)
	}
}

// TestTurnedByte is promise 2.4, of one byte of a header that is another. (The sum tells one from 0 to FF, too; the promise leaves that open, and so does the test.)
func TestTurnedByte(t *testing.T) {
	zero := plain
	zero.Id = 0x66d5
	for _, h := range []api.Header{{}, plain, distinct, zero, {Tos: 255, Id: 65535, Frag: 65535, Ttl: 255, Proto: 255, Src: math.MaxUint32, Dst: math.MaxUint32}} {
		s := mustBuild(t, h)
		for place := 1; place < headerSize; place++ {
			if place == 2 || place == 3 {
				continue
			}
			for other := range 256 {
				was := int(s[place])
				if other == was || other+was == 255 && (other == 0 || was == 0) {
					continue
				}
				wantFault(t, "a byte that is turned", with(s, place, string([]byte{byte(other)})), api.ErrSum)
			}
		}
	}
}

// FuzzParse holds any bytes, as they are and with their length and sum put right, against the promises.
func FuzzParse(f *testing.F) {
	f.Add(plainBytes)
	f.Add("")
	f.Add(strings.Repeat("\xff", 20))
	f.Add("\x45\x00\x00\x14" + strings.Repeat("\x00", 16))
	f.Fuzz(func(t *testing.T, s string) {
		checkBytes(t, s)
		if len(s) >= headerSize && len(s) <= 65535 {
			right := resum("\x45" + s[1:2] + string([]byte{byte(len(s) >> 8), byte(len(s))}) + s[4:])
			if _, e := ipv4.Parse(right); e != api.OK {
				t.Fatalf("Parse(%x): error %d", right, e)
			}
			checkBytes(t, right)
		}
	})
}

func checkBytes(t *testing.T, s string) {
	h, e := ipv4.Parse(s)
	if e != api.OK {
		wantFault(t, "what Parse refuses", s, e)
		return
	}
	if u, e := ipv4.Build(h); u != s || e != api.OK {
		t.Fatalf("Build of Parse(%x): %x, error %d", s, u, e)
	}
	checkHop(t, s)
}
