package tenant_test

import (
	"math"
	"strings"
	"testing"

	"vizard/api"
)

// TestPayload is promise 23.2 of payloads to a tunnel's port, from its target and from others.
func TestPayload(t *testing.T) {
	x, p := asked(t, base())
	p.write(8, udpTo(host+1, 9), false)
	p.settle()
	for _, one := range []struct {
		name string
		port int
		src  uint32
		from int
		want string
	}{
		{"to the first port", 40000, host, 53, "\x00\x00answer"},
		{"to the third port", 40002, host + 1, 9, "\x02\x00answer"},
		{"to the port of packets", 40001, host, 53, ""},
		{"to a port without a tunnel", 40003, host, 53, ""},
		{"below the first port", 39999, host, 53, ""},
		{"above the last port", 40004, host, 53, ""},
		{"to the port 0", 0, host, 53, ""},
		{"to the place itself", 2, host + 1, 9, ""},
		{"to a port below 0", math.MinInt, host, 53, ""},
		{"to a port of 65536 more", 40000 + 65536, host, 53, ""},
		{"to a port of 2^32 more", 40000 + 1<<32, host, 53, ""},
		{"to the greatest port", math.MaxInt, host, 53, ""},
		{"from another address", 40000, host + 1, 53, ""},
		{"from another port", 40000, host, 54, ""},
		{"from another tunnel's target", 40000, host + 1, 9, ""},
		{"from a port below 0", 40000, host, -53, ""},
		{"from a port of 65536 more", 40000, host, 53 + 65536, ""},
	} {
		before := x.m.Dropped()
		x.payload(one.port, one.src, one.from, "answer")
		p.settle()
		if one.want == "" {
			x.wantDropped(before + 1)
			p.wantPulled()
		} else {
			x.wantDropped(before)
			p.wantPulled(one.want)
		}
		if t.Failed() {
			t.Fatal(one.name)
		}
	}
	// Not even a packet that the tunnel of packets would take is a payload of its port's.
	before := x.m.Dropped()
	x.payload(40001, host, 53, built(coming(pool+1, "a")))
	p.settle()
	x.wantDropped(before + 1)
	p.wantPulled()
	x.wantTunnels(0, 4, 8)
	x.wantState(2, 0)
}

// TestPayloadSizes is promise 23.2 of payloads of as many bytes as may be: a datagram has 1000, of which two are the stream and the context.
func TestPayloadSizes(t *testing.T) {
	x, p := asked(t, base())
	for _, size := range []int{0, 1, 997, 998, 999, 1000, 1001, 65536} {
		s := strings.Repeat("x", size)
		before := x.m.Dropped()
		x.payload(40000, host, 53, s)
		p.settle()
		if size <= 998 {
			x.wantDropped(before)
			p.wantPulled("\x00\x00" + s)
		} else {
			x.wantDropped(before + 1)
			p.wantPulled()
		}
	}
}

// TestPacket is promise 23.2 of packets to a tunnel's own address, and to others.
func TestPacket(t *testing.T) {
	x, p := asked(t, base())
	p.write(12, ip(), false)
	p.settle()
	last := coming(pool+1, "")
	last.Ttl = 1
	right := built(coming(pool+1, "a"))
	for _, one := range []struct{ name, s, want string }{
		{"to the second place", built(coming(pool+1, "a")), "\x01\x00" + hopped(coming(pool+1, "a"))},
		{"to the third place", built(coming(pool+2, "b")), "\x03\x00" + hopped(coming(pool+2, "b"))},
		{"to the address of payloads", built(coming(pool, "a")), ""},
		{"to an address without a tunnel", built(coming(pool+3, "a")), ""},
		{"ahead of the pool", built(coming(pool-1, "a")), ""},
		{"behind the pool", built(coming(pool+4, "a")), ""},
		{"to the host", built(coming(host, "a")), ""},
		{"to 0", built(coming(0, "a")), ""},
		{"the last hop", built(last), ""},
		{"nothing", "", ""},
		{"19 bytes", right[:19], ""},
		{"a byte fewer", right[:len(right)-1], ""},
		{"a byte more", right + "\x00", ""},
		{"another version", "\x65" + right[1:], ""},
		{"a wrong sum", right[:8] + "\x08" + right[9:], ""},
	} {
		before := x.m.Dropped()
		x.packet(one.s)
		p.settle()
		if one.want == "" {
			x.wantDropped(before + 1)
			p.wantPulled()
		} else {
			x.wantDropped(before)
			p.wantPulled(one.want)
		}
		if t.Failed() {
			t.Fatal(one.name)
		}
	}
	x.wantTunnels(0, 4, 12)
	x.wantState(2, 0)
}

// TestPacketSizes is promise 23.2 of packets of as many bytes as may be.
func TestPacketSizes(t *testing.T) {
	x, p := asked(t, base())
	for _, size := range []int{0, 1, 977, 978, 979, 980, 981, 65515} {
		h := coming(pool+1, strings.Repeat("x", size))
		before := x.m.Dropped()
		x.packet(built(h))
		p.settle()
		if size <= 978 {
			x.wantDropped(before)
			p.wantPulled("\x01\x00" + hopped(h))
		} else {
			x.wantDropped(before + 1)
			p.wantPulled()
		}
	}
}

// TestPacketWraps is promise 23.2 of a pool at the end of all addresses.
func TestPacketWraps(t *testing.T) {
	x, p := with(t, changed(func(c *api.Tenant) { c.Pool = math.MaxUint32 }))
	for id := int64(0); id <= 12; id += 4 {
		p.write(id, ip(), false)
	}
	p.settle()
	for i, own := range []uint32{math.MaxUint32, 0, 1, 2} {
		x.packet(built(coming(own, "x")))
		p.settle()
		p.wantPulled(string([]byte{byte(i), 0}) + hopped(coming(own, "x")))
	}
	x.packet(built(coming(3, "x")))
	x.packet(built(coming(math.MaxUint32-1, "x")))
	x.wantDropped(2)
}

// TestPushFull is promise 23.2 of datagrams that wait: 32, of all tunnels together; what comes more is dropped.
func TestPushFull(t *testing.T) {
	x, p := asked(t, base())
	var want []string
	for i := range 40 {
		s := string([]byte{byte(i)})
		if i%2 == 0 {
			x.payload(40000, host, 53, s)
			s = "\x00\x00" + s
		} else {
			x.packet(built(coming(pool+1, s)))
			s = "\x01\x00" + hopped(coming(pool+1, s))
		}
		x.wantDropped(max(0, i-31))
		if i < 32 {
			want = append(want, s)
		}
	}
	p.settle()
	p.wantPulled(want...)
	x.payload(40000, host, 53, "again")
	p.settle()
	p.wantPulled("\x00\x00again")
	x.wantDropped(8)
}

// TestDownWithoutTunnels is promise 23.2 of a machine without a connection, of one whose connection is closed, and of tunnels that were closed.
func TestDownWithoutTunnels(t *testing.T) {
	x := newPair(t, base())
	both := func() {
		t.Helper()
		x.payload(40000, host, 53, "x")
		x.packet(built(coming(pool+1, "x")))
		x.packet("x")
	}
	both()
	x.wantDropped(3)
	p := connected(x, "client01")
	both()
	x.wantDropped(6)
	p.write(0, udpTo(host, 53), false)
	p.write(4, ip(), false)
	p.settle()
	x.payload(40000, host, 53, "ahead")
	x.packet(built(coming(pool+1, "ahead")))
	x.wantDropped(6)
	// What is pushed already goes to the tenant, also behind a tunnel's close.
	p.write(0, "", true)
	p.reset(4)
	p.flush()
	x.wantTunnels()
	both()
	x.wantDropped(9)
	p.settle()
	p.wantPulled("\x00\x00ahead", "\x01\x00"+hopped(coming(pool+1, "ahead")))
	p.write(2, "\x04\x00", false)
	p.settle()
	x.wantState(3, api.CodeUnexp)
	both()
	x.wantDropped(12)
}

// TestDownTakesNothing is promise 23.2: that what goes to the tenant takes nothing of the bucket, and no place in a queue.
func TestDownTakesNothing(t *testing.T) {
	x, p := asked(t, changed(func(c *api.Tenant) { c.Burst, c.Rate, c.Queue = 2, 0, 1 }))
	x.payload(40000, host, 53, "answer")
	x.payload(40000, host, 53, "more")
	p.push("\x00\x00hi")
	p.settle()
	p.wantOut(emitted("hi"))
	p.wantPulled("\x00\x00answer", "\x00\x00more")
	x.wantDropped(0)
}
