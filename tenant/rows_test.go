package tenant_test

import (
	"fmt"
	"math/rand"
	"strings"
	"testing"

	"vizard/api"
	"vizard/capsule"
	"vizard/h3"
	"vizard/tenant"
)

// driver draws calls of a pair, and clients' steps.
type driver struct {
	t     *testing.T
	pick  func(n int) int // from 0 to below n
	x     *pair
	p     *peer
	rest  [8]string // what is still to be written to each request's stream
	over  [8]bool   // its end was written, or it was reset
	mail  []string  // packets that are on their way
	names int
}

func newDriver(t *testing.T, pick func(n int) int) *driver {
	t.Helper()
	d := &driver{t: t, pick: pick}
	d.x = newPair(t, d.tenant())
	d.connect()
	return d
}

func one[T any](d *driver, some ...T) T {
	return some[d.pick(len(some))]
}

// tenant is a configuration with few numbers.
func (d *driver) tenant() api.Tenant {
	rules := [][]api.Rule{
		base().Rules,
		base().Rules,
		{rule(true, 17, 0x0A000000, 8)},
		{rule(false, 6, host, 32), rule(true, 0, 0x0A000000, 30)},
		{{Allow: true, To: api.Prefix{Addr: host, Bits: 32}, From: 50, Upto: 60}},
		nil,
	}
	return api.Tenant{
		Psk: one(d, "k", "key"), Rules: one(d, rules...), Rate: one(d, 0, 10, 100, 1000), Burst: one(d, 20, 200, 2000, 20000),
		Quota: one(d, 1, 2, 3, 4, 4), Queue: one(d, 1, 2, 5, 32), Pool: one[uint32](d, pool, 0xFFFFFFFE), Seed: uint64(d.pick(3)),
	}
}

// connect is another client.
func (d *driver) connect() {
	d.t.Helper()
	d.names++
	d.p = newPeer(d.x, fmt.Sprintf("cl%06d", d.names))
	d.mail = nil
	for i := range d.rest {
		d.rest[i], d.over[i] = d.stream(), false
	}
	for range 2 {
		d.p.send()
		d.p.turn()
	}
	if d.pick(3) > 0 {
		d.p.write(2, "\x00\x04\x02\x08\x01", false)
	}
}

// stream is what is written to a request's stream.
func (d *driver) stream() string {
	var s strings.Builder
	if d.pick(20) == 0 {
		s.WriteString(h3.Frame(0x21, "strange"))
	}
	s.WriteString(d.request())
	for range d.pick(8) {
		s.WriteString(d.behind())
	}
	return s.String()
}

func (d *driver) request() string {
	switch d.pick(20) {
	case 0:
		return headers(other(one(d, ":path", ":scheme", ":protocol", ":method"), "x"))
	case 1:
		return h3.Frame(1, "\xc0")
	case 2:
		return udpTo(far, 53)
	case 3, 4, 5, 6, 7:
		return ip()
	}
	return udpTo(one[uint32](d, host, host, host+1), one(d, 53, 53, 54, 1))
}

// behind is a frame behind Headers; very seldom one that is wrong there.
func (d *driver) behind() string {
	switch d.pick(60) {
	case 0:
		return one(d, "\x04\x00", "\x07\x01\x00", udpTo(host, 53), "\x01\x50\x00")
	case 1, 2:
		return h3.Frame(one[int64](d, 0x21, 0x40), "strange")
	case 3:
		return data("\x00\x50\x01" + d.up())
	}
	var s strings.Builder
	for range d.pick(4) {
		s.WriteString(d.capsule())
	}
	all := s.String()
	cut := d.pick(len(all) + 1)
	return data(all[:cut]) + data(all[cut:])
}

func (d *driver) capsule() string {
	switch d.pick(10) {
	case 0:
		return capsule.Write(capsule.Capsule{Kind: one[int64](d, 1, 2, 3, 77), Data: d.up()})
	case 1:
		return gram(one(d, "", "\x01", "\x40", "\x40\x40") + "x")
	}
	return gram(one(d, "\x00", "\x00", "\x40\x00") + d.up())
}

// up is what may go up: bytes, or a packet, mostly from an own address.
func (d *driver) up() string {
	if d.pick(2) == 0 {
		return strings.Repeat("u", one(d, 0, 1, 3, 20, 200, 600, 1001))
	}
	h := going(d.x.p.c.Pool+uint32(d.pick(5)), strings.Repeat("p", one(d, 0, 1, 40, 900)))
	h.Proto = one(d, 6, 17, 17)
	h.Dst = one[uint32](d, host, host, host, host+1, far)
	h.Ttl = one(d, 64, 64, 64, 1)
	return built(h)
}

// step is one thing that happens.
func (d *driver) step() {
	d.t.Helper()
	switch d.pick(16) {
	case 0, 1, 2:
		d.write(d.pick(8))
	case 3, 4:
		d.p.c.Push(one(d, "\x00", "\x01", "\x02", "\x03", "\x07") + one(d, "\x00", "\x00", "\x00", "\x00", "\x05") + d.up())
	case 5, 6, 7:
		d.send()
	case 8, 9, 10:
		d.p.turn()
	case 11:
		d.x.now++
		d.x.tick()
	case 12:
		d.x.payload(40000+d.pick(5)-d.pick(2), one[uint32](d, host, host, host+1), one(d, 53, 53, 54), strings.Repeat("d", one(d, 0, 5, 300, 998, 999)))
	case 13:
		h := coming(d.x.p.c.Pool+uint32(d.pick(5)), strings.Repeat("d", one(d, 0, 5, 300, 978, 979)))
		h.Ttl = one(d, 9, 9, 9, 0)
		d.x.packet(built(h)[d.pick(30)/29:])
	case 14:
		d.arrive()
	case 15:
		d.seldom()
	}
}

// write writes some of what is left of a stream.
func (d *driver) write(i int) {
	if d.over[i] {
		return
	}
	size := min(d.pick(300), len(d.rest[i]))
	if d.p.c.Write(int64(4*i), d.rest[i][:size], false) == api.OK {
		d.rest[i] = d.rest[i][size:]
	}
	if d.rest[i] == "" && d.pick(4) == 0 {
		d.over[i] = d.p.c.Write(int64(4*i), "", true) == api.OK
	}
}

// send sends a packet, which most often comes at once, and sometimes late, twice or never.
func (d *driver) send() {
	d.t.Helper()
	s, ok := d.p.c.Send(d.x.now, 1200)
	if !ok {
		return
	}
	switch d.pick(12) {
	case 0:
	case 1:
		d.mail = append(d.mail, s)
	case 2:
		d.x.link(s)
		d.x.link(s)
	default:
		d.x.link(s)
	}
}

// arrive lets a packet come that was late.
func (d *driver) arrive() {
	d.t.Helper()
	if len(d.mail) == 0 {
		return
	}
	i := d.pick(len(d.mail))
	d.x.link(d.mail[i])
	d.mail = append(d.mail[:i:i], d.mail[i+1:]...)
}

func (d *driver) seldom() {
	d.t.Helper()
	if phase, _ := d.x.m.State(); phase == 3 {
		d.connect()
		return
	}
	i := d.pick(8)
	switch d.pick(30) {
	case 0:
		d.over[i] = true
		d.p.c.Reset(int64(4*i), 1)
	case 1:
		d.over[i] = d.over[i] || d.p.c.Write(int64(4*i), "", true) == api.OK
	case 2:
		d.connect()
	case 3:
		d.p.c.Push(one(d, "", "\x08\x00", "\x40"))
	case 4:
		d.p.c.Write(2, one(d, "\x04\x00", "\x07\x01\x00", "\x40"), d.pick(2) == 0)
	case 5:
		d.p.c.Close(int64(d.pick(300)))
	case 6:
		d.x.link(strings.Repeat("\x01", d.pick(100)))
	case 7:
		d.p.c.Reset(2, 1)
	case 8:
		d.x.link(helloOf(d.t, d.x.p.c.Psk, d.x.p.name, d.x.p.name+d.x.p.name))
	}
}

// TestRandomRows is promises 23.1 to 23.5 of calls drawn at random: each is held against the plain machine, and what goes out against the rules.
func TestRandomRows(t *testing.T) {
	random := rand.New(rand.NewSource(235))
	saw := map[string]int{}
	for range 100 {
		d := newDriver(t, random.Intn)
		for range 400 {
			d.step()
		}
		for what, n := range d.x.p.saw {
			saw[what] += n
		}
	}
	for what, least := range map[string]int{
		"another connection": 100, "recv 0": 1000, "recv 11": 100, "recv 1": 5, "recv 2": 1, "recv 3": 10, "recv 14": 20,
		"status 200": 100, "status 400": 20, "status 403": 50, "status 404": 1, "status 405": 1, "status 429": 20, "status 501": 1, "packets": 50,
		"went up": 200, "went down": 100, "another capsule": 20, "a great capsule": 5, "data without a tunnel": 50,
		"reset": 3, "ended, with a tunnel: true": 10, "ended, with a tunnel: false": 3, "tunnel closed": 100,
		"closed 33": 5, "closed 104": 3, "closed 105": 5, "closed 106": 1, "closed 10e": 1,
		"dropped: Up 8": 5, "dropped: Up 15": 50, "dropped: Up 2": 3, "dropped: Up 1": 20, "dropped: Up 3": 20, "dropped: the bucket": 50, "dropped: the queue": 20,
		"dropped: no context": 1, "dropped: another context": 5, "dropped: a datagram of another context": 20, "dropped: a datagram without a tunnel": 50, "dropped: with its tunnel": 20,
		"dropped: no such port": 50, "dropped: no such address": 50, "dropped: Down 15": 20, "dropped: Down 2": 5, "dropped: push 8": 5,
		"slot true true": 50, "slot true false": 500, "slot false true": 20, "slot false false": 200,
	} {
		if saw[what] < least {
			t.Errorf("%q came %d times, too few of %d to tell", what, saw[what], least)
		}
	}
	if t.Failed() {
		t.Log(saw)
	}
}

// TestTwoMachines is promises 23.1 to 23.4: that two machines that were given the same calls answer the same, however these of both stand among one another.
func TestTwoMachines(t *testing.T) {
	random := rand.New(rand.NewSource(23))
	for range 6 {
		d := newDriver(t, random.Intn)
		for range 400 {
			d.step()
		}
		var machines [2]*tenant.Machine
		for i := range machines {
			machines[i], _ = tenant.New(d.x.p.c)
		}
		for at := [2]int{}; at[0] < len(d.x.calls) || at[1] < len(d.x.calls); {
			i := random.Intn(2)
			if at[i] == len(d.x.calls) {
				continue
			}
			c := d.x.calls[at[i]]
			at[i]++
			if s := c.do(machines[i]) + told(machines[i]); s != c.answer {
				t.Fatalf("the call %d answers %.200s, it answered %.200s", at[i], s, c.answer)
			}
		}
	}
}

func FuzzRow(f *testing.F) {
	random := rand.New(rand.NewSource(1))
	for range 8 {
		b := make([]byte, 2000)
		random.Read(b)
		f.Add(b)
	}
	f.Fuzz(func(t *testing.T, b []byte) {
		pick := func(n int) int {
			if len(b) == 0 {
				return 0
			}
			first := int(b[0])
			b = b[1:]
			if n > 256 && len(b) > 0 {
				first = first<<8 | int(b[0])
				b = b[1:]
			}
			return first % n
		}
		d := newDriver(t, pick)
		for range 500 {
			if len(b) == 0 {
				break
			}
			d.step()
		}
	})
}

// FuzzLink hands a machine bytes that came to it on a connection, sealed as its client's, and payloads and packets.
func FuzzLink(f *testing.F) {
	f.Add("\x08\x00\x00\x00\x02\x01\x01", "\x30\x02\x00\x00", "x")
	f.Add("\x08\x02\x00\x01\x00", "\x04\x04\x00\x00", "\x45")
	f.Add("\x08\x04\x00\x00\x05\x00\x50\x01\x00\x00", "\x1c\x00", "")
	f.Fuzz(func(t *testing.T, first, second, s string) {
		x, p := asked(t, base())
		for i, l := range []string{first, second} {
			x.link(sealed(p, uint32(100+i), l))
			x.link(s)
			x.payload(40000, host, 53, s)
			x.packet(s)
			x.slot()
		}
		x.tick()
		x.slot()
	})
}
