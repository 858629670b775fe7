package tenant_test

import (
	"encoding/binary"
	"slices"
	"testing"

	"vizard/api"
	"vizard/capsule"
	"vizard/conn"
	"vizard/fields"
	"vizard/h3"
	"vizard/ipv4"
	"vizard/seal"
	"vizard/sha"
	"vizard/target"
)

const (
	host = 0x0A000001 // the rules of base allow it
	far  = 0x0B000001 // and do not allow this one
	pool = 0xC0000200
)

// base is a configuration whose rules allow 10.0.0.0/8.
func base() api.Tenant {
	return api.Tenant{Psk: "key", Rules: []api.Rule{rule(true, 0, 0x0A000000, 8)}, Rate: 100, Burst: 100000, Quota: 4, Queue: 32, Pool: pool, Seed: 7}
}

// rule is one for all ports.
func rule(allow bool, proto int, addr uint32, bits int) api.Rule {
	return api.Rule{Allow: allow, Proto: proto, To: api.Prefix{Addr: addr, Bits: bits}, Upto: 65535}
}

// peer is a client's end, that sends to a pair.
type peer struct {
	t   *testing.T
	x   *pair
	c   *conn.Conn
	got map[int64]string // all that was read
	out []api.Emit       // all that was emitted
}

// newPeer has sent nothing.
func newPeer(x *pair, name string) *peer {
	x.t.Helper()
	c, e := conn.Dial(x.p.c.Psk, name, name+name)
	if e != api.OK {
		x.t.Fatalf("Dial: error %d", e)
	}
	return &peer{t: x.t, x: x, c: c, got: map[int64]string{}}
}

// connected is a client's end in phase 2, that has written its settings.
func connected(x *pair, name string) *peer {
	x.t.Helper()
	p := newPeer(x, name)
	p.settle()
	p.write(2, "\x00\x04\x00", false)
	p.settle()
	if phase, _ := p.c.State(); phase != 2 {
		x.t.Fatalf("%s is in the phase %d", name, phase)
	}
	return p
}

// with is a machine of a configuration, and a client that is connected.
func with(t *testing.T, c api.Tenant) (*pair, *peer) {
	t.Helper()
	x := newPair(t, c)
	return x, connected(x, "client01")
}

// sealed is a packet of data that the client of the latest connection would send.
func sealed(p *peer, number uint32, frames string) string {
	c := p.x.p.c
	nonces := p.x.p.name + p.x.p.name + drawOf(c.Seed, p.x.p.draws-1)
	head := string(binary.BigEndian.AppendUint32([]byte("\x03"+p.x.p.name), number))
	return head + seal.New(sha.Derive(c.Psk, "up", nonces)).Seal(int64(number), head, frames)
}

func (p *peer) write(id int64, s string, fin bool) {
	p.t.Helper()
	if e := p.c.Write(id, s, fin); e != api.OK {
		p.t.Fatalf("Write(%d): error %d", id, e)
	}
}

func (p *peer) reset(id int64) {
	p.t.Helper()
	if e := p.c.Reset(id, 0); e != api.OK {
		p.t.Fatalf("Reset(%d): error %d", id, e)
	}
}

func (p *peer) push(s string) {
	p.t.Helper()
	if e := p.c.Push(s); e != api.OK {
		p.t.Fatalf("Push: error %d", e)
	}
}

// send brings one packet to the machine, if there is one.
func (p *peer) send() bool {
	p.t.Helper()
	s, ok := p.c.Send(p.x.now, 1200)
	if ok {
		p.x.link(s)
	}
	return ok
}

// flush brings all packets there that may be sent now; nothing goes out of the machine meanwhile.
func (p *peer) flush() {
	p.t.Helper()
	for p.send() {
	}
}

// turn is one slot.
func (p *peer) turn() bool {
	p.t.Helper()
	s, sent, e, emitted := p.x.slot()
	if sent {
		p.c.Recv(p.x.now, s)
	}
	if emitted {
		p.out = append(p.out, e)
	}
	for _, id := range p.c.Streams() {
		p.got[id] += p.c.Read(id, 1<<20)
	}
	return sent || emitted
}

// settle brings all there, in both directions.
func (p *peer) settle() {
	p.t.Helper()
	for again := true; again; {
		again = p.send()
		again = p.turn() || again
	}
}

// wantGot asks what was read of a stream, and how it ended: 0 not, 1 by its end, 2 by a reset.
func (p *peer) wantGot(id int64, s string, how int) {
	p.t.Helper()
	if p.got[id] != s {
		p.t.Errorf("on the stream %d came %x, want %x", id, p.got[id], s)
	}
	if n, _ := p.c.How(id); n != how {
		p.t.Errorf("the stream %d has ended as %d, want %d", id, n, how)
	}
}

// wantOut asks what was emitted since it was asked last.
func (p *peer) wantOut(want ...api.Emit) {
	p.t.Helper()
	if !slices.Equal(p.out, want) {
		p.t.Errorf("emitted: %.300v, want %.300v", p.out, want)
	}
	p.out = nil
}

// wantPulled asks which datagrams came.
func (p *peer) wantPulled(want ...string) {
	p.t.Helper()
	var l []string
	for s, ok := p.c.Pull(); ok; s, ok = p.c.Pull() {
		l = append(l, s)
	}
	if !slices.Equal(l, want) {
		p.t.Errorf("pulled: %.200q, want %.200q", l, want)
	}
}

// wantClosed asks that both ends are closed, with a code.
func (p *peer) wantClosed(code int64) {
	p.t.Helper()
	p.x.wantState(3, code)
	p.settle()
	if phase, n := p.c.State(); phase != 3 || n != code {
		p.t.Errorf("the client is in the phase %d with %#x, want 3 with %#x", phase, n, code)
	}
}

func (x *pair) wantState(phase int, code int64) {
	x.t.Helper()
	if n, c := x.m.State(); n != phase || c != code {
		x.t.Errorf("State is %d, %#x, want %d, %#x", n, c, phase, code)
	}
}

func (x *pair) wantTunnels(want ...int64) {
	x.t.Helper()
	if l := x.m.Tunnels(); !slices.Equal(l, want) {
		x.t.Errorf("the tunnels are %v, want %v", l, want)
	}
}

func (x *pair) wantDropped(want int) {
	x.t.Helper()
	if n := x.m.Dropped(); n != want {
		x.t.Errorf("%d are dropped, want %d", n, want)
	}
}

// headers is a frame of Headers with fields.
func headers(l []api.Field) string {
	s, e := fields.Write(l)
	if e != api.OK {
		panic(e)
	}
	return h3.Frame(1, s)
}

// udpTo asks for payloads, ip for packets.
func udpTo(addr uint32, port int) string {
	return headers(target.Fields("proxy", api.Target{Addr: addr, Port: port}))
}

func ip() string {
	return headers(target.Fields("proxy", api.Target{Ip: true}))
}

func data(s string) string {
	return h3.Frame(0, s)
}

// gram is a capsule of Datagram.
func gram(s string) string {
	return capsule.Write(capsule.Capsule{Kind: 0, Data: s})
}

// built is a packet's bytes.
func built(h api.Header) string {
	s, e := ipv4.Build(h)
	if e != api.OK {
		panic(e)
	}
	return s
}

// going is a packet to the host, coming one to an own address.
func going(src uint32, s string) api.Header {
	return api.Header{Ttl: 64, Proto: 17, Src: src, Dst: host, Data: "\x01\x00\x00\x35\x00\x00\x00\x00" + s}
}

func coming(dst uint32, s string) api.Header {
	return api.Header{Ttl: 9, Proto: 6, Src: host, Dst: dst, Data: s}
}

// hopped is a packet a hop further.
func hopped(h api.Header) string {
	h.Ttl--
	return built(h)
}
