package tenant

import (
	"math/rand"
	"strings"
	"testing"

	"vizard/api"
	"vizard/capsule"
	"vizard/conn"
	"vizard/fields"
	"vizard/h3"
	"vizard/target"
)

// reached is a machine with a client's end that is connected to it.
func reached(t *testing.T, name string, m *Machine) *conn.Conn {
	t.Helper()
	if m == nil {
		t.Fatal("there is no machine")
	}
	c, e := conn.Dial("key", name, name+name)
	if e != api.OK {
		t.Fatalf("Dial: error %d", e)
	}
	c.Write(2, "\x00\x04\x00", false)
	settle(m, c)
	return c
}

func settle(m *Machine, c *conn.Conn) {
	for again := true; again; {
		s, sent := c.Send(0, 1200)
		if sent {
			m.Link(0, s)
		}
		back, came, _, emitted := m.Slot(0)
		if came {
			c.Recv(0, back)
		}
		again = sent || came || emitted
	}
}

func someMachine(t *testing.T) *Machine {
	t.Helper()
	m, e := New(api.Tenant{Psk: "key", Rules: []api.Rule{{Allow: true, To: api.Prefix{Addr: 0x0A000000, Bits: 8}, Upto: 65535}}, Rate: 1, Burst: 1 << 20, Quota: 4, Queue: 32})
	if e != api.OK {
		t.Fatalf("New: error %d", e)
	}
	return m
}

func requestFor(t api.Target) string {
	s, _ := fields.Write(target.Fields("proxy", t))
	return h3.Frame(h3.Headers, s)
}

// room is how many bytes, up to most, may be written to a stream still; it writes them.
func room(m *Machine, stream int64, most int) int {
	for n := most; n > 0; n-- {
		if m.conn.Write(stream, strings.Repeat("x", n), false) == api.OK {
			return n
		}
	}
	return 0
}

// TestFullOutbox is promise 23.1: that what cannot be written, as its stream's outbox is full, is not: the answer, its end, what stands behind it; a tunnel is open all the same.
func TestFullOutbox(t *testing.T) {
	const full = 4 * api.Buffer
	for _, one := range []struct {
		name    string
		goal    api.Target
		free    int // bytes that the outbox has room for
		left    int // room that is left then
		tunnels int
	}{
		{"200, and room enough", api.Target{Addr: 0x0A000001, Port: 1}, 3, 0, 1},
		{"200, and too little room", api.Target{Addr: 0x0A000001, Port: 1}, 2, 2, 1},
		{"200, and no room", api.Target{Addr: 0x0A000001, Port: 1}, 0, 0, 1},
		{"packets, and room enough", api.Target{Ip: true}, 26, 0, 1},
		{"packets, and too little room for what is told", api.Target{Ip: true}, 25, 22, 1},
		{"packets, and room for the status alone", api.Target{Ip: true}, 3, 0, 1},
		{"packets, and no room", api.Target{Ip: true}, 2, 2, 1},
		{"403, and too little room", api.Target{Addr: 0x0B000001, Port: 1}, 2, 2, 0},
		{"403, and no room", api.Target{Addr: 0x0B000001, Port: 1}, 0, 0, 0},
	} {
		m := someMachine(t)
		c := reached(t, "client01", m)
		if e := m.conn.Write(0, strings.Repeat("x", full-one.free), false); e != api.OK {
			t.Fatalf("%s: Write: error %d", one.name, e)
		}
		c.Write(0, requestFor(one.goal), false)
		s, _ := c.Send(0, 1200)
		m.Link(0, s)
		if n := len(m.Tunnels()); n != one.tunnels {
			t.Errorf("%s: %d tunnels", one.name, n)
		}
		// An end that was written would let nothing be written any more.
		if n := room(m, 0, 64); n != one.left {
			t.Errorf("%s: there is room for %d bytes, want %d", one.name, n, one.left)
		}
		if e := m.conn.Write(0, "", false); e != api.OK {
			t.Errorf("%s: the end was written", one.name)
		}
		if phase, _ := m.State(); phase != phaseOpen {
			t.Errorf("%s: the phase is %d", one.name, phase)
		}
	}
}

// check asks of what is kept that it is of requests that came on a connection that is open, and that only tunnels have packets that wait.
func (m *Machine) check(t *testing.T) {
	t.Helper()
	phase, _ := m.State()
	if phase != phaseOpen && len(m.requests) != 0 {
		t.Fatalf("%d requests are kept in the phase %d", len(m.requests), phase)
	}
	for stream, r := range m.requests {
		if how, _ := m.conn.How(stream); stream%4 != 0 || how != 0 && !r.done {
			t.Fatalf("of the stream %d, which has ended as %d, is kept: %+v", stream, how, r)
		}
		if r.stream != stream || r.done && (r.tunnel != nil || r.reader != nil || r.capsules != nil) {
			t.Fatalf("of the stream %d is kept: %+v", stream, r)
		}
	}
	open := m.open()
	if len(open) > m.quota || len(m.requests) > api.MaxStreams {
		t.Fatalf("%d tunnels, %d requests", len(open), len(m.requests))
	}
	count := m.queues.Count()
	for _, r := range open {
		for _, o := range open {
			if o != r && (o.tunnel.Port == r.tunnel.Port || o.tunnel.Own == r.tunnel.Own) {
				t.Fatalf("%+v and %+v are at one place", r.tunnel, o.tunnel)
			}
		}
	}
	if len(open) == 0 && count != 0 || count > 4*32 {
		t.Fatalf("%d packets wait for %d tunnels", count, len(open))
	}
}

// TestKept is promises 23.1 and 23.4: rule 8 of the language, and the chapter's 'a tunnel .. till that is closed: then it is gone': whatever comes, nothing is kept of what is over.
func TestKept(t *testing.T) {
	random := rand.New(rand.NewSource(238))
	great := capsule.Write(capsule.Capsule{Data: strings.Repeat("x", 4097)})
	for i := range 40 {
		m := someMachine(t)
		name := "client0" + string([]byte{byte('0' + i%10)})
		c := reached(t, name, m)
		for range 60 {
			stream := int64(4 * random.Intn(8))
			switch random.Intn(12) {
			case 0, 1, 2:
				c.Write(stream, requestFor(api.Target{Addr: uint32(0x0A000000 + random.Intn(2)<<24), Port: 1}), false)
			case 3:
				c.Write(stream, requestFor(api.Target{Ip: true}), random.Intn(2) == 0)
			case 4:
				c.Write(stream, "", true)
			case 5:
				c.Reset(stream, 0)
			case 6, 7:
				c.Push(string([]byte{byte(stream / 4), 0}) + "up")
			case 8:
				c.Write(stream, h3.Frame(h3.Data, great[:9]), false)
			case 9:
				if random.Intn(9) == 0 {
					c.Push("\x09")
				}
			case 10:
				if random.Intn(5) == 0 {
					c = reached(t, name[:7]+string([]byte{byte('a' + random.Intn(26))}), m)
					m.check(t)
				}
			default:
				settle(m, c)
			}
			if s, ok := c.Send(0, 1200); ok {
				m.Link(0, s)
				m.check(t)
			}
		}
	}
}

// TestCleared is promise 23.1: that the map of requests is cleared for another connection, and once a connection is closed.
func TestCleared(t *testing.T) {
	m := someMachine(t)
	c := reached(t, "client01", m)
	for stream := int64(0); stream < 32; stream += 4 {
		c.Write(stream, requestFor(api.Target{Ip: true}), false)
	}
	settle(m, c)
	if len(m.requests) != 8 {
		t.Fatalf("%d requests", len(m.requests))
	}
	c = reached(t, "client02", m)
	if len(m.requests) != 0 {
		t.Errorf("%d requests are kept for another connection", len(m.requests))
	}
	c.Write(0, requestFor(api.Target{Ip: true}), false)
	settle(m, c)
	c.Close(0)
	settle(m, c)
	if len(m.requests) != 0 {
		t.Errorf("%d requests are kept behind a close", len(m.requests))
	}
}
