package udp_test

import (
	"encoding/binary"
	"fmt"
	"math"
	"math/big"
	"math/rand"
	"strings"
	"testing"

	"vizard/api"
	"vizard/ipv4"
	"vizard/udp"
)

const (
	headerSize = 8
	maxData    = 65507
	// maxSaid is the most data that a datagram's length can tell: more than Build writes, but not more than Parse reads.
	maxSaid = 65535 - headerSize
)

// datagram is what Build is given.
type datagram struct {
	src, dst uint32
	from, to int
	data     string
}

func (d datagram) String() string {
	return fmt.Sprintf("%08x, %08x, %d, %d, %.40x (%d bytes)", d.src, d.dst, d.from, d.to, d.data, len(d.data))
}

// plain is the datagram of the chapter's example.
var plain = datagram{0x0A000001, 0x0A000002, 1, 2, "ab"}

const plainBytes = "\x00\x01\x00\x02\x00\x0a\x8a\x72ab"

// distinct has another number in each byte, so that none can stand in another's place.
var distinct = datagram{0x11223344, 0x55667788, 0x0102, 0x0304, "\xa1\xa2\xa3"}

// zeroSum is plain with the port that its sum leaves to FFFF, so that the sum comes out as 0.
var zeroSum = datagram{0x0A000001, 0x0A000002, 0x8A73, 2, "ab"}

// wantSum is the check sum by another way: adding carries below is the rest at a division by 65535, and what is summed here is never all 0.
func wantSum(d datagram) int {
	b := binary.BigEndian.AppendUint32(nil, d.src)
	b = binary.BigEndian.AppendUint32(b, d.dst)
	b = append(b, 0, 17)
	b = binary.BigEndian.AppendUint16(b, uint16(headerSize+len(d.data)))
	b = binary.BigEndian.AppendUint16(b, uint16(d.from))
	b = binary.BigEndian.AppendUint16(b, uint16(d.to))
	b = binary.BigEndian.AppendUint16(b, uint16(headerSize+len(d.data)))
	b = append(b, d.data...)
	if len(b)%2 == 1 {
		b = append(b, 0)
	}
	total := new(big.Int)
	for i := 0; i < len(b); i += 2 {
		total.Add(total, big.NewInt(int64(binary.BigEndian.Uint16(b[i:]))))
	}
	rest := int(new(big.Int).Mod(total, big.NewInt(0xffff)).Int64())
	// A rest of 0 is a folded sum of FFFF, thus a check sum of 0, for which FFFF stands.
	return 0xffff - rest
}

// wantBytes is a datagram's bytes by another way.
func wantBytes(d datagram) string {
	b := make([]byte, headerSize)
	binary.BigEndian.PutUint16(b, uint16(d.from))
	binary.BigEndian.PutUint16(b[2:], uint16(d.to))
	binary.BigEndian.PutUint16(b[4:], uint16(headerSize+len(d.data)))
	binary.BigEndian.PutUint16(b[6:], uint16(wantSum(d)))
	return string(b) + d.data
}

// with is bytes with others at a place.
func with(s string, place int, other string) string {
	return s[:place] + other + s[place+len(other):]
}

func twoBytes(n int) string {
	return string([]byte{byte(n >> 8), byte(n)})
}

// said is a datagram whose length says something else: with the sum as it was, with one by that length, and with one by how many bytes there are, so that no test hangs on the sum.
func said(d datagram, length int) []string {
	s := with(wantBytes(d), 4, twoBytes(length))
	out := []string{s}
	for _, pseudo := range []int{length, len(s)} {
		b := binary.BigEndian.AppendUint32(nil, d.src)
		b = binary.BigEndian.AppendUint32(b, d.dst)
		sum := ipv4.Sum(string(b) + "\x00\x11" + twoBytes(pseudo) + with(s, 6, "\x00\x00"))
		out = append(out, with(s, 6, twoBytes(sum)))
	}
	return out
}

func wantBuild(t *testing.T, name string, d datagram, want string, errno api.Errno) {
	t.Helper()
	if s, e := udp.Build(d.src, d.dst, d.from, d.to, d.data); s != want || e != errno {
		t.Errorf("%s: Build(%v): %.40x (%d bytes), error %d; want %.40x (%d bytes), error %d", name, d, s, len(s), e, want, len(want), errno)
	}
}

func wantParse(t *testing.T, name string, s string, want datagram) {
	t.Helper()
	from, to, data, e := udp.Parse(want.src, want.dst, s)
	if from != want.from || to != want.to || data != want.data || e != api.OK {
		t.Errorf("%s: Parse(%.40x): %d, %d, %.40x (%d bytes), error %d; want %v", name, s, from, to, data, len(data), e, want)
	}
}

func wantFault(t *testing.T, name string, src, dst uint32, s string, errno api.Errno) {
	t.Helper()
	if from, to, data, e := udp.Parse(src, dst, s); from != 0 || to != 0 || data != "" || e != errno {
		t.Errorf("%s: Parse(%08x, %08x, %.40x): %d, %d, %.40x, error %d; want error %d", name, src, dst, s, from, to, data, e, errno)
	}
}

// rightOnes have each part at its least, its greatest and some within.
func rightOnes() []datagram {
	out := []datagram{{}, plain, distinct, zeroSum}
	for _, port := range []int{0, 1, 255, 256, 0x7fff, 0x8000, 65534, 65535} {
		from, to := distinct, distinct
		from.from, to.to = port, port
		out = append(out, from, to)
	}
	for _, addr := range []uint32{0, 1, 0xffff, 0x10000, 0x7fffffff, 0x80000000, math.MaxUint32} {
		src, dst := distinct, distinct
		src.src, dst.dst = addr, addr
		out = append(out, src, dst)
	}
	for _, size := range []int{0, 1, 2, 3, 4, 247, 248, 249, 65499, maxData - 1, maxData} {
		for _, filled := range []string{"\x00", "\xa5", "\xff"} {
			d := distinct
			d.data = strings.Repeat(filled, size)
			out = append(out, d)
		}
	}
	all := datagram{math.MaxUint32, math.MaxUint32, 65535, 65535, strings.Repeat("\xff", maxData)}
	return append(out, all)
}

// TestBuild is promise 3.1, of what Build writes.
func TestBuild(t *testing.T) {
	wantBuild(t, "the example", plain, plainBytes, api.OK)
	wantBuild(t, "no data", datagram{0x0A000001, 0x0A000002, 1, 2, ""}, "\x00\x01\x00\x02\x00\x08\xeb\xd8", api.OK)
	wantBuild(t, "one byte, an odd number", datagram{0x0A000001, 0x0A000002, 1, 2, "a"}, "\x00\x01\x00\x02\x00\x09\x8a\xd6a", api.OK)
	wantBuild(t, "all 0", datagram{}, "\x00\x00\x00\x00\x00\x08\xff\xde", api.OK)
	s, _ := udp.Build(distinct.src, distinct.dst, distinct.from, distinct.to, distinct.data)
	if len(s) != 11 || s[:6] != "\x01\x02\x03\x04\x00\x0b" || s[8:] != "\xa1\xa2\xa3" {
		t.Errorf("bytes are not in their places: %x", s)
	}
	for _, d := range rightOnes() {
		wantBuild(t, "a right one", d, wantBytes(d), api.OK)
	}
}

// TestBuildSumOfZero is promise 3.1, of a check sum that comes out as 0.
func TestBuildSumOfZero(t *testing.T) {
	wantBuild(t, "by the port", zeroSum, "\x8a\x73\x00\x02\x00\x0a\xff\xffab", api.OK)
	for port := range 0x10000 {
		// The data is what the rest leaves to FFFF.
		d := datagram{0xC0A80001, 0xC0A80002, port, 53, "\x00\x00"}
		d.data = twoBytes(wantSum(d))
		s, e := udp.Build(d.src, d.dst, d.from, d.to, d.data)
		if e != api.OK || s[6:8] != "\xff\xff" {
			t.Fatalf("Build(%v): %x, error %d; want a sum of FFFF", d, s, e)
		}
	}
}

// TestBuildRefuses is promise 3.1, of what Build refuses.
func TestBuildRefuses(t *testing.T) {
	long := strings.Repeat("x", maxData+1)
	for _, port := range []int{-1, 65536, 65537, -65535, -65536, 1 << 17, 1 << 32, 1<<32 + 1, math.MinInt, math.MaxInt} {
		from, to, both := plain, plain, plain
		from.from, to.to, both.from, both.to = port, port, port, port
		for _, d := range []datagram{from, to, both} {
			wantBuild(t, "no port", d, "", api.ErrRange)
			d.data = ""
			wantBuild(t, "no port, no data", d, "", api.ErrRange)
			d.data = long
			wantBuild(t, "no port, and too long", d, "", api.ErrRange)
		}
	}
	for _, more := range []int{1, 2, 8, 20, 21, 28, 29, 1 << 16, 1 << 17} {
		d := plain
		d.data = strings.Repeat("x", maxData+more)
		wantBuild(t, "too long", d, "", api.ErrLong)
		d.from, d.to = 0, 65535
		wantBuild(t, "too long, ports at their ends", d, "", api.ErrLong)
	}
}

// TestParse is promise 3.1, of what is right.
func TestParse(t *testing.T) {
	wantParse(t, "the example", plainBytes, plain)
	wantParse(t, "8 bytes", "\x00\x01\x00\x02\x00\x08\xeb\xd8", datagram{0x0A000001, 0x0A000002, 1, 2, ""})
	for _, d := range rightOnes() {
		wantParse(t, "a right one", wantBytes(d), d)
	}
	// Of these the chapter names no error, though no packet has room for them.
	for _, size := range []int{maxData + 1, maxSaid - 1, maxSaid} {
		d := plain
		d.data = strings.Repeat("\x5a", size)
		wantParse(t, "longer than Build writes", wantBytes(d), d)
	}
}

// TestParseLength is promise 3.1, of bytes that are too few or too many.
func TestParseLength(t *testing.T) {
	bare := datagram{0x0A000001, 0x0A000002, 1, 2, ""}
	for size := range headerSize {
		wantFault(t, "fewer than 8 bytes", plain.src, plain.dst, plainBytes[:size], api.ErrShort)
		wantFault(t, "zeros", 0, 0, strings.Repeat("\x00", size), api.ErrShort)
		wantFault(t, "bytes FF", 0, 0, strings.Repeat("\xff", size), api.ErrShort)
	}
	for _, d := range []datagram{bare, plain, distinct, zeroSum} {
		size := headerSize + len(d.data)
		for length := range 0x10000 {
			if length == size {
				continue
			}
			want := api.ErrMore
			if length < headerSize || length > size {
				want = api.ErrShort
			}
			// Far from the edges the sum as it was is enough.
			if length > 512 && length < 0xff00 {
				wantFault(t, "another length", d.src, d.dst, with(wantBytes(d), 4, twoBytes(length)), want)
				continue
			}
			for _, s := range said(d, length) {
				wantFault(t, "another length", d.src, d.dst, s, want)
			}
		}
	}
	wantFault(t, "10 said, 9 there", plain.src, plain.dst, plainBytes[:9], api.ErrShort)
	wantFault(t, "10 said, 8 there", plain.src, plain.dst, plainBytes[:8], api.ErrShort)
	wantFault(t, "10 said, 11 there", plain.src, plain.dst, plainBytes+"\x00", api.ErrMore)
	wantFault(t, "10 said, 65546 there", plain.src, plain.dst, plainBytes+strings.Repeat("\x00", 1<<16), api.ErrMore)
	whole := plain
	whole.data = strings.Repeat("x", maxSaid)
	s := wantBytes(whole)
	wantFault(t, "65535 said, 65534 there", plain.src, plain.dst, s[:len(s)-1], api.ErrShort)
	wantFault(t, "65535 said, 65536 there", plain.src, plain.dst, s+"x", api.ErrMore)
	// What two bytes can't say is told as fewer, not as the same.
	whole.data = strings.Repeat("x", maxSaid+1)
	wantFault(t, "0 said, 65536 there", plain.src, plain.dst, wantBytes(whole), api.ErrShort)
	whole.data += strings.Repeat("x", headerSize)
	wantFault(t, "8 said, 65544 there", plain.src, plain.dst, wantBytes(whole), api.ErrMore)
}

// TestParseSum is promise 3.1, of the check sum.
func TestParseSum(t *testing.T) {
	for _, d := range []datagram{plain, distinct, zeroSum} {
		right := wantBytes(d)
		for sum := range 0x10000 {
			if twoBytes(sum) == right[6:8] {
				continue
			}
			wantFault(t, "another sum", d.src, d.dst, with(right, 6, twoBytes(sum)), api.ErrSum)
		}
	}
	wantParse(t, "FFFF for 0", "\x8a\x73\x00\x02\x00\x0a\xff\xffab", zeroSum)
	wantFault(t, "0 where it comes out as 0", zeroSum.src, zeroSum.dst, "\x8a\x73\x00\x02\x00\x0a\x00\x00ab", api.ErrSum)
	wantFault(t, "0 where it is another", plain.src, plain.dst, "\x00\x01\x00\x02\x00\x0a\x00\x00ab", api.ErrSum)
	wantFault(t, "8 bytes with a sum of 0", 0, 0, "\x00\x00\x00\x00\x00\x08\x00\x00", api.ErrSum)
}

// TestParseTurned is promise 3.1: the sum is that of the ports and of the data, the last odd byte too.
func TestParseTurned(t *testing.T) {
	for _, d := range []datagram{plain, distinct} {
		right := wantBytes(d)
		for place := range right {
			if place == 4 || place == 5 {
				continue
			}
			for other := range 256 {
				if byte(other) != right[place] {
					wantFault(t, "a byte that is turned", d.src, d.dst, with(right, place, string([]byte{byte(other)})), api.ErrSum)
				}
			}
		}
	}
}

// TestParseAddresses is promise 3.1, of other addresses than those of Build.
func TestParseAddresses(t *testing.T) {
	for _, d := range []datagram{plain, distinct, zeroSum, {0, 0, 7, 9, ""}} {
		s := wantBytes(d)
		for bit := range 32 {
			wantFault(t, "from another address", d.src^1<<bit, d.dst, s, api.ErrSum)
			wantFault(t, "to another address", d.src, d.dst^1<<bit, s, api.ErrSum)
		}
		wantFault(t, "from the next one", d.src+1, d.dst, s, api.ErrSum)
		wantFault(t, "to the next one", d.src, d.dst+1, s, api.ErrSum)
		// The sum is the same, so it is that of these addresses, too.
		back := d
		back.src, back.dst = d.dst, d.src
		wantParse(t, "the addresses changed for one another", s, back)
	}
}

// TestParseOrder: of several faults the one that the chapter names first is told.
func TestParseOrder(t *testing.T) {
	wantFault(t, "fewer than said, other addresses", 1, 2, with(plainBytes, 4, "\x00\x0b"), api.ErrShort)
	wantFault(t, "fewer than 8 said, other addresses", 1, 2, with(plainBytes, 4, "\x00\x07"), api.ErrShort)
	wantFault(t, "more than said, other addresses", 1, 2, with(plainBytes, 4, "\x00\x09"), api.ErrMore)
	wantFault(t, "more than said, a sum of 0", plain.src, plain.dst, "\x00\x01\x00\x02\x00\x09\x00\x00ab", api.ErrMore)
	wantFault(t, "fewer than 8, and fewer than 8 said", 0, 0, "\x00\x01\x00\x02\x00\x07\x00", api.ErrShort)
}

func wantPorts(t *testing.T, h api.Header, from, to int, ok bool) {
	t.Helper()
	if f, u, o := udp.Ports(h); f != from || u != to || o != ok {
		t.Errorf("Ports of Proto %d, Frag %x, Data %.40x (%d bytes): %d, %d, %v; want %d, %d, %v", h.Proto, h.Frag, h.Data, len(h.Data), f, u, o, from, to, ok)
	}
}

// TestPorts is promise 3.2.
func TestPorts(t *testing.T) {
	const data = "\x01\x02\x03\x04\x05\x06\x07\x08"
	for _, proto := range []int{6, 17} {
		wantPorts(t, api.Header{Proto: proto, Data: data}, 0x0102, 0x0304, true)
		wantPorts(t, api.Header{Proto: proto, Data: "\x00\x00\x00\x00"}, 0, 0, true)
		wantPorts(t, api.Header{Proto: proto, Data: "\xff\xff\xff\xff"}, 65535, 65535, true)
		wantPorts(t, api.Header{Proto: proto, Data: "\x00\x35\x9c\x40"}, 53, 40000, true)
		for size := range len(data) + 1 {
			if size < 4 {
				wantPorts(t, api.Header{Proto: proto, Data: data[:size]}, 0, 0, false)
			} else {
				wantPorts(t, api.Header{Proto: proto, Data: data[:size]}, 0x0102, 0x0304, true)
			}
		}
		wantPorts(t, api.Header{Proto: proto, Data: data + strings.Repeat("x", 1<<17)}, 0x0102, 0x0304, true)
		// What else a header has says nothing of its ports.
		wantPorts(t, api.Header{Tos: 255, Id: 65535, Ttl: 0, Proto: proto, Src: 1, Dst: 2, Data: data}, 0x0102, 0x0304, true)
	}
}

// TestPortsOfProtocols is promise 3.2, of packets that have none by their protocol.
func TestPortsOfProtocols(t *testing.T) {
	const data = "\x01\x02\x03\x04\x05\x06\x07\x08"
	others := []int{-1, -6, -17, 256, 6 + 256, 17 + 256, 6 + 1<<16, 17 + 1<<32, math.MinInt, math.MaxInt}
	for proto := range 256 {
		if proto != 6 && proto != 17 {
			others = append(others, proto)
		}
	}
	for _, proto := range others {
		wantPorts(t, api.Header{Proto: proto, Data: data}, 0, 0, false)
	}
}

// TestPortsOfFragments is promise 3.2, of Frag: flags do not matter, an offset does.
func TestPortsOfFragments(t *testing.T) {
	const data = "\x01\x02\x03\x04\x05\x06\x07\x08"
	for _, proto := range []int{6, 17} {
		for frag := range 0x10000 {
			if frag%0x2000 == 0 {
				wantPorts(t, api.Header{Proto: proto, Frag: frag, Data: data}, 0x0102, 0x0304, true)
			} else {
				wantPorts(t, api.Header{Proto: proto, Frag: frag, Data: data}, 0, 0, false)
			}
		}
	}
	for _, frag := range []int{-1, 0x10001, math.MaxInt, math.MinInt + 1} {
		wantPorts(t, api.Header{Proto: 17, Frag: frag, Data: data}, 0, 0, false)
	}
}

// TestPortsOfBuilt: the ports of a packet are those that its datagram was built with.
func TestPortsOfBuilt(t *testing.T) {
	for _, d := range rightOnes() {
		s, _ := udp.Build(d.src, d.dst, d.from, d.to, d.data)
		packet, e := ipv4.Build(api.Header{Ttl: 64, Proto: 17, Src: d.src, Dst: d.dst, Data: s})
		if e != api.OK {
			t.Fatalf("a datagram of %d bytes in a packet: error %d", len(s), e)
		}
		h, _ := ipv4.Parse(packet)
		wantPorts(t, h, d.from, d.to, true)
	}
}

// TestRoundTrip is promise 3.3.
func TestRoundTrip(t *testing.T) {
	random := rand.New(rand.NewSource(3))
	all := rightOnes()
	for size := range 2000 {
		data := make([]byte, size%97)
		random.Read(data)
		all = append(all, datagram{random.Uint32(), random.Uint32(), random.Intn(65536), random.Intn(65536), string(data)})
	}
	for _, d := range all {
		s, e := udp.Build(d.src, d.dst, d.from, d.to, d.data)
		if e != api.OK {
			t.Fatalf("Build(%v): error %d", d, e)
		}
		wantParse(t, "what was built", s, d)
		wantBuild(t, "what was parsed", d, s, api.OK)
	}
}

// FuzzParse holds any bytes, as they are and with their length and sum put right, against the promises.
func FuzzParse(f *testing.F) {
	f.Add(uint32(0x0A000001), uint32(0x0A000002), plainBytes)
	f.Add(uint32(0x0A000001), uint32(0x0A000002), "\x8a\x73\x00\x02\x00\x0a\xff\xffab")
	f.Add(uint32(0), uint32(0), "")
	f.Add(uint32(0), uint32(0), "\x00\x00\x00\x00\x00\x08\xff\xde")
	f.Add(uint32(math.MaxUint32), uint32(1), strings.Repeat("\xff", 9))
	f.Fuzz(func(t *testing.T, src, dst uint32, s string) {
		checkBytes(t, src, dst, s)
		if len(s) < headerSize || len(s) > headerSize+maxData {
			return
		}
		d := datagram{src, dst, int(s[0])<<8 | int(s[1]), int(s[2])<<8 | int(s[3]), s[headerSize:]}
		wantBuild(t, "any parts", d, wantBytes(d), api.OK)
		wantParse(t, "any parts", wantBytes(d), d)
	})
}

func checkBytes(t *testing.T, src, dst uint32, s string) {
	t.Helper()
	from, to, data, e := udp.Parse(src, dst, s)
	if e != api.OK {
		wantFault(t, "what Parse refuses", src, dst, s, e)
		return
	}
	d := datagram{src, dst, from, to, data}
	if s != wantBytes(d) {
		t.Errorf("Parse(%08x, %08x, %.40x): %v, of other bytes", src, dst, s, d)
	}
	if len(data) <= maxData {
		wantBuild(t, "what was parsed", d, s, api.OK)
	}
}
