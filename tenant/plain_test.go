package tenant_test

import (
	"crypto/hmac"
	"crypto/sha256"
	"encoding/binary"
	"fmt"
	"reflect"
	"slices"
	"strconv"
	"testing"

	"vizard/api"
	"vizard/capsule"
	"vizard/conn"
	"vizard/fields"
	"vizard/h3"
	"vizard/ipv4"
	"vizard/policy"
	"vizard/target"
	"vizard/tenant"
	"vizard/tunnel"
	"vizard/varint"
)

// short is a text behind how many bytes it has, of fewer than 64.
func short(s string) string {
	return string([]byte{byte(len(s))}) + s
}

// drawOf is a tenant's draw, by the library's code.
func drawOf(seed, i uint64) string {
	code := hmac.New(sha256.New, binary.BigEndian.AppendUint64(nil, seed))
	code.Write([]byte("\x04draw\x08"))
	code.Write(binary.BigEndian.AppendUint64(nil, i))
	return string(code.Sum(nil)[:16])
}

// ask is what a plain machine knows of one of the eight streams of requests.
type ask struct {
	reader *h3.Reader
	parts  *capsule.Reader
	done   bool
	place  int // -1: it has no tunnel
	goal   api.Target
}

// waiting is a tunnel's packets in the round.
type waiting struct {
	stream  int64
	packets []api.Emit
	deficit int
	served  bool
}

// plain is a second machine: what is known of streams stands in eight places, what waits in a list of its own, and the bucket is a number.
type plain struct {
	c       api.Tenant
	conn    *conn.Conn
	name    string
	wrote   bool // the stream 3
	draws   uint64
	control *h3.Reader
	asks    [8]ask
	bucket  int
	round   []*waiting
	dropped int
	saw     map[string]int // how often what was done
}

func newPlain(c api.Tenant) *plain {
	c.Rules = slices.Clone(c.Rules)
	p := &plain{c: c, bucket: c.Burst, saw: map[string]int{}}
	p.renew()
	return p
}

func (p *plain) renew() {
	for i := range p.asks {
		p.asks[i] = ask{reader: h3.New(false), parts: capsule.New(), place: -1}
	}
}

func (p *plain) drop(why string) {
	p.dropped++
	p.saw["dropped: "+why]++
}

func (p *plain) live() bool {
	if p.conn == nil {
		return false
	}
	phase, _ := p.conn.State()
	return phase == 2
}

// shut closes the tunnel of the i-th request.
func (p *plain) shut(i int) {
	if p.asks[i].place < 0 {
		return
	}
	p.saw["tunnel closed"]++
	p.asks[i].place = -1
	for at, w := range p.round {
		if w.stream == int64(4*i) {
			for range w.packets {
				p.drop("with its tunnel")
			}
			p.round = slices.Delete(p.round, at, at+1)
			return
		}
	}
}

func (p *plain) shutAll() {
	for i := range p.asks {
		p.shut(i)
	}
}

func (p *plain) link(now int64, s string) {
	name, nonce, e := conn.Hello(p.c.Psk, s)
	if e == api.OK && (p.conn == nil || name != p.name) {
		p.shutAll()
		p.conn, _ = conn.Accept(p.c.Psk, name, nonce, drawOf(p.c.Seed, p.draws))
		p.draws++
		p.name, p.wrote, p.control = name, false, h3.New(true)
		p.renew()
		p.saw["another connection"]++
	} else if p.conn != nil {
		p.saw["recv "+strconv.Itoa(int(p.conn.Recv(now, s)))]++
	}
	if p.conn != nil {
		p.pump()
	}
}

// pump is the four parts, in their order, none of them any more once the connection is not live.
func (p *plain) pump() {
	if p.live() && !p.wrote {
		p.wrote = true
		p.conn.Write(3, "\x00\x04\x04\x08\x01\x33\x01", false)
	}
	if p.live() {
		p.pumpControl()
	}
	for i := range p.asks {
		if p.live() && !p.asks[i].done && slices.Contains(p.conn.Streams(), int64(4*i)) {
			p.pumpRequest(i)
		}
	}
	for p.live() {
		s, ok := p.conn.Pull()
		if !ok {
			break
		}
		p.pumpDatagram(s)
	}
	if !p.live() {
		p.shutAll()
	}
}

func (p *plain) closeWith(code int64) {
	p.conn.Close(code)
	p.saw["closed "+strconv.FormatInt(code, 16)]++
}

func (p *plain) pumpControl() {
	if s := p.conn.Read(2, 1<<20); s != "" {
		if _, code := p.control.Feed(s); code != 0 {
			p.closeWith(code)
			return
		}
	}
	if how, _ := p.conn.How(2); how != 0 {
		p.closeWith(0x104)
	}
}

func (p *plain) pumpRequest(i int) {
	a, id := &p.asks[i], int64(4*i)
	events, code := a.reader.Feed(p.conn.Read(id, 1<<20))
	for _, e := range events {
		switch {
		case e.Kind == 1:
			p.headers(i, e.Data)
		case e.Kind == 0 && a.place >= 0:
			p.data(i, e.Data)
		default:
			p.saw["data without a tunnel"]++
		}
		if a.done {
			return
		}
	}
	if code != 0 {
		p.closeWith(code)
		return
	}
	how, _ := p.conn.How(id)
	if how == 2 {
		p.saw["reset"]++
		p.shut(i)
		a.done = true
	}
	if how == 1 {
		p.pumpEnd(i)
	}
}

func (p *plain) pumpEnd(i int) {
	a := &p.asks[i]
	if code := a.reader.End(); code != 0 {
		p.closeWith(code)
		return
	}
	p.saw[fmt.Sprintf("ended, with a tunnel: %v", a.place >= 0)]++
	if a.place >= 0 {
		p.shut(i)
		p.conn.Write(int64(4*i), "", true)
	}
	a.done = true
}

// headers answers the i-th request.
func (p *plain) headers(i int, section string) {
	status, goal := p.statusOf(section)
	p.saw["status "+status]++
	line := map[string]string{"200": "\x88", "400": "\x89", "403": "\x8a", "404": "\x8b", "429": "\x8c"}[status]
	if line == "" {
		line = "\x48" + short(status)
	}
	p.conn.Write(int64(4*i), "\x01"+short(line), status != "200")
	if status != "200" {
		return
	}
	a := &p.asks[i]
	a.goal, a.place = goal, p.free()
	if goal.Ip {
		p.saw["packets"]++
		routes, _ := capsule.Tells(policy.Routes(p.c.Rules))
		own := binary.BigEndian.AppendUint32([]byte("\x00\x04"), p.own(i))
		told := "\x01" + short(string(own)+"\x20") + "\x03" + varint.Text(routes)
		p.conn.Write(int64(4*i), "\x00"+varint.Text(told), false)
	}
}

func (p *plain) statusOf(section string) (string, api.Target) {
	l, e := fields.Read(section)
	if e != api.OK {
		return "400", api.Target{}
	}
	goal, status := target.Parse(l)
	switch {
	case status != 200:
		return strconv.Itoa(status), api.Target{}
	case tunnel.Tunnel{Target: goal, Rules: p.c.Rules}.Open() != api.OK:
		return "403", api.Target{}
	case len(p.tunnels()) >= p.c.Quota:
		return "429", api.Target{}
	}
	return "200", goal
}

// free is the least place at which no tunnel is.
func (p *plain) free() int {
	for place := 0; ; place++ {
		if !slices.ContainsFunc(p.asks[:], func(a ask) bool { return a.place == place }) {
			return place
		}
	}
}

func (p *plain) own(i int) uint32 {
	return p.c.Pool + uint32(p.asks[i].place)
}

func (p *plain) tunnelOf(i int) tunnel.Tunnel {
	return tunnel.Tunnel{Target: p.asks[i].goal, Own: p.own(i), Port: 40000 + p.asks[i].place, Rules: p.c.Rules}
}

// data is bytes of the i-th request, which has a tunnel.
func (p *plain) data(i int, s string) {
	l, e := p.asks[i].parts.Feed(s)
	for _, c := range l {
		if c.Kind != 0 {
			p.saw["another capsule"]++
			continue
		}
		context, size, fault := varint.Get(c.Data)
		switch {
		case fault != api.OK:
			p.drop("no context")
		case context != 0:
			p.drop("another context")
		default:
			p.up(i, c.Data[size:])
		}
	}
	if e != api.OK {
		p.saw["a great capsule"]++
		p.conn.Reset(int64(4*i), 0x10e)
		p.shut(i)
		p.asks[i].done = true
	}
}

func (p *plain) pumpDatagram(s string) {
	stream, context, data, e := capsule.Open(s)
	switch {
	case e != api.OK:
		p.closeWith(0x33)
	case context != 0:
		p.drop("a datagram of another context")
	case p.asks[stream/4].place < 0:
		p.drop("a datagram without a tunnel")
	default:
		p.up(int(stream/4), data)
	}
}

func (p *plain) up(i int, s string) {
	e, fault := p.tunnelOf(i).Up(s)
	if fault != api.OK {
		p.drop("Up " + strconv.Itoa(int(fault)))
		return
	}
	if len(e.Data) > p.bucket {
		p.drop("the bucket")
		return
	}
	p.bucket -= len(e.Data)
	at := slices.IndexFunc(p.round, func(w *waiting) bool { return w.stream == int64(4*i) })
	switch {
	case at < 0:
		p.round = append(p.round, &waiting{stream: int64(4 * i), packets: []api.Emit{e}})
	case len(p.round[at].packets) == p.c.Queue:
		p.drop("the queue")
		return
	default:
		p.round[at].packets = append(p.round[at].packets, e)
	}
	p.saw["went up"]++
}

// next takes what goes out next: an emission's packet has nine bytes more than its data.
func (p *plain) next() (api.Emit, bool) {
	for len(p.round) > 0 {
		first := p.round[0]
		if !first.served {
			first.deficit += 1200
		}
		e := first.packets[0]
		if size := 9 + len(e.Data); size <= first.deficit {
			first.deficit -= size
			first.served = true
			first.packets = first.packets[1:]
			if len(first.packets) == 0 {
				p.round = p.round[1:]
			}
			return e, true
		}
		first.served = false
		p.round = append(p.round[1:], first)
	}
	return api.Emit{}, false
}

func (p *plain) payload(port int, src uint32, from int, s string) {
	for i, a := range p.asks {
		if a.place >= 0 && !a.goal.Ip && 40000+a.place == port {
			p.down(i, src, from, s)
			return
		}
	}
	p.drop("no such port")
}

func (p *plain) packet(s string) {
	h, e := ipv4.Parse(s)
	for i, a := range p.asks {
		if e == api.OK && a.place >= 0 && a.goal.Ip && p.own(i) == h.Dst {
			p.down(i, 0, 0, s)
			return
		}
	}
	p.drop("no such address")
}

func (p *plain) down(i int, src uint32, from int, s string) {
	data, e := p.tunnelOf(i).Down(src, from, s)
	if e != api.OK {
		p.drop("Down " + strconv.Itoa(int(e)))
		return
	}
	if e := p.conn.Push(string([]byte{byte(i), 0}) + data); e != api.OK {
		p.drop("push " + strconv.Itoa(int(e)))
		return
	}
	p.saw["went down"]++
}

func (p *plain) tick() {
	p.bucket = min(p.bucket+p.c.Rate, p.c.Burst)
}

func (p *plain) slot(now int64) (string, bool, api.Emit, bool) {
	s, sent := "", false
	if p.conn != nil {
		s, sent = p.conn.Send(now, 1200)
	}
	e, emitted := p.next()
	p.saw[fmt.Sprintf("slot %v %v", sent, emitted)]++
	return s, sent, e, emitted
}

func (p *plain) tunnels() []int64 {
	var l []int64
	for i, a := range p.asks {
		if a.place >= 0 {
			l = append(l, int64(4*i))
		}
	}
	return l
}

func (p *plain) state() (int, int64) {
	if p.conn == nil {
		return 0, 0
	}
	return p.conn.State()
}

// pair is a machine with a plain one beside it, against which each call is held.
type pair struct {
	t     *testing.T
	m     *tenant.Machine
	p     *plain
	now   int64
	calls []call // all that were made
}

// call is one of a machine, and all that may be asked behind it.
type call struct {
	do     func(m *tenant.Machine) string
	answer string
}

// made remembers a call that was made.
func (x *pair) made(do func(m *tenant.Machine) string, answer string) {
	x.calls = append(x.calls, call{do: do, answer: answer + told(x.m)})
}

// told is all that may be asked of a machine.
func told(m *tenant.Machine) string {
	phase, code := m.State()
	return fmt.Sprint(m.Tunnels(), m.Dropped(), phase, code)
}

func slotText(s string, sent bool, e api.Emit, emitted bool) string {
	return fmt.Sprint([]byte(s), sent, e.Ip, e.Port, e.Addr, e.To, []byte(e.Data), emitted)
}

// newPair hands New rules with spare room behind their end, and asks that neither is changed, nor looked at later.
func newPair(t *testing.T, c api.Tenant) *pair {
	t.Helper()
	given := append(make([]api.Rule, 0, len(c.Rules)+4), c.Rules...)
	room := given[:cap(given)]
	for i := len(given); i < len(room); i++ {
		room[i] = api.Rule{Allow: true, Proto: 200 + i, Upto: 65535}
	}
	before := slices.Clone(room)
	handed := c
	handed.Rules = given
	if e := tenant.Check(handed); e != api.OK {
		t.Fatalf("Check(%+v): error %d", c, e)
	}
	m, e := tenant.New(handed)
	if e != api.OK || m == nil {
		t.Fatalf("New(%+v): error %d", c, e)
	}
	if !slices.Equal(room, before) {
		t.Fatalf("the rules that were handed in are %v, they were %v", room, before)
	}
	for i := range room {
		room[i] = api.Rule{Allow: !room[i].Allow, Upto: 65535}
	}
	x := &pair{t: t, m: m, p: newPlain(c)}
	x.same("New")
	return x
}

// same holds all that may be asked.
func (x *pair) same(what string) {
	x.t.Helper()
	if l, want := x.m.Tunnels(), x.p.tunnels(); !slices.Equal(l, want) {
		x.t.Fatalf("%s: the tunnels are %v, want %v", what, l, want)
	} else if len(l) > 0 {
		l[0] = -1 // what was handed out is the caller's
		if l := x.m.Tunnels(); !slices.Equal(l, want) {
			x.t.Fatalf("%s: a change of what was handed out makes the tunnels %v", what, l)
		}
	}
	if n := x.m.Dropped(); n != x.p.dropped {
		x.t.Fatalf("%s: %d are dropped, want %d", what, n, x.p.dropped)
	}
	phase, code := x.m.State()
	if wantPhase, wantCode := x.p.state(); phase != wantPhase || code != wantCode {
		x.t.Fatalf("%s: the state is %d, %#x, want %d, %#x", what, phase, code, wantPhase, wantCode)
	}
	if n := len(x.m.Tunnels()); n > x.p.c.Quota {
		x.t.Fatalf("%s: %d tunnels, beyond the quota %d", what, n, x.p.c.Quota)
	}
}

func (x *pair) link(s string) {
	x.t.Helper()
	x.m.Link(x.now, s)
	x.p.link(x.now, s)
	x.same("Link")
	now := x.now
	x.made(func(m *tenant.Machine) string { m.Link(now, s); return "" }, "")
}

func (x *pair) payload(port int, src uint32, from int, s string) {
	x.t.Helper()
	x.m.Payload(x.now, port, src, from, s)
	x.p.payload(port, src, from, s)
	x.same("Payload")
	now := x.now
	x.made(func(m *tenant.Machine) string { m.Payload(now, port, src, from, s); return "" }, "")
}

func (x *pair) packet(s string) {
	x.t.Helper()
	x.m.Packet(x.now, s)
	x.p.packet(s)
	x.same("Packet")
	now := x.now
	x.made(func(m *tenant.Machine) string { m.Packet(now, s); return "" }, "")
}

func (x *pair) tick() {
	x.t.Helper()
	x.m.Tick()
	x.p.tick()
	x.same("Tick")
	x.made(func(m *tenant.Machine) string { m.Tick(); return "" }, "")
}

func (x *pair) slot() (string, bool, api.Emit, bool) {
	x.t.Helper()
	s, sent, e, emitted := x.m.Slot(x.now)
	wantS, wantSent, wantE, wantEmitted := x.p.slot(x.now)
	if s != wantS || sent != wantSent {
		x.t.Fatalf("Slot sends %d bytes, %v, not the %d bytes, %v, that it must", len(s), sent, len(wantS), wantSent)
	}
	if !reflect.DeepEqual(e, wantE) || emitted != wantEmitted {
		x.t.Fatalf("Slot emits %.200v, %v, want %.200v, %v", e, emitted, wantE, wantEmitted)
	}
	x.goesRight(s, sent, e, emitted)
	x.same("Slot")
	now := x.now
	x.made(func(m *tenant.Machine) string { return slotText(m.Slot(now)) }, slotText(s, sent, e, emitted))
	return s, sent, e, emitted
}

// goesRight is promise 23.5 of what goes out in a slot, by that alone.
func (x *pair) goesRight(s string, sent bool, e api.Emit, emitted bool) {
	x.t.Helper()
	if sent != (s != "") || sent && len(s) != 45 && len(s) != 1200 {
		x.t.Fatalf("a packet of %d bytes goes to the tenant, %v", len(s), sent)
	}
	if !emitted {
		if e != (api.Emit{}) {
			x.t.Fatalf("%.200v is emitted, which is none", e)
		}
		return
	}
	rules := x.p.c.Rules
	if !e.Ip {
		if !policy.Allow(rules, 17, e.Addr, e.To) || e.Port < 40000 || e.Port > 40003 || len(e.Data) > 1000 {
			x.t.Fatalf("%.200v goes out", e)
		}
		return
	}
	h, fault := ipv4.Parse(e.Data)
	port := 0
	if (h.Proto == 6 || h.Proto == 17) && h.Frag&0x1fff == 0 && len(h.Data) >= 4 {
		port = int(h.Data[2])<<8 | int(h.Data[3])
	}
	if fault != api.OK || h.Dst != e.Addr || !policy.Allow(rules, h.Proto, h.Dst, port) || h.Src-x.p.c.Pool > 3 || e.Port != 0 || e.To != 0 {
		x.t.Fatalf("%.200v goes out", e)
	}
}
