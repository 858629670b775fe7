package tenant_test

import (
	"math"
	"slices"
	"strings"
	"testing"

	"vizard/api"
	"vizard/fields"
	"vizard/frames"
	"vizard/h3"
	"vizard/target"
)

// The answers' bytes.
const (
	answer200 = "\x01\x01\x88"
	answer400 = "\x01\x01\x89"
	answer403 = "\x01\x01\x8a"
	answer404 = "\x01\x01\x8b"
	answer405 = "\x01\x05\x48\x03405"
	answer429 = "\x01\x01\x8c"
	answer501 = "\x01\x05\x48\x03501"
)

// TestExample is promise 23.1: the chapter's example: 200, for another address 403, for a fifth tunnel 429.
func TestExample(t *testing.T) {
	x, p := with(t, base())
	p.write(0, udpTo(host, 53), false)
	p.write(4, udpTo(far, 53), false)
	for id := int64(8); id <= 20; id += 4 {
		p.write(id, udpTo(host, 53), false)
	}
	p.settle()
	p.wantGot(0, answer200, 0)
	p.wantGot(4, answer403, 1)
	for id := int64(8); id <= 16; id += 4 {
		p.wantGot(id, answer200, 0)
	}
	p.wantGot(20, answer429, 1)
	x.wantTunnels(0, 8, 12, 16)
	x.wantDropped(0)
}

// other is the fields of a request with another value of one, or without it.
func other(name, value string) []api.Field {
	l := target.Fields("proxy", api.Target{Addr: host, Port: 53})
	i := slices.IndexFunc(l, func(f api.Field) bool { return f.Name == name })
	if value == "" {
		return slices.Delete(l, i, i+1)
	}
	l[i].Value = value
	return l
}

// TestAnswers is promise 23.1: the answers of requests that are answered at once: their bytes, and the stream's end, if it is not 200.
func TestAnswers(t *testing.T) {
	for _, one := range []struct{ name, s, want string }{
		{"payloads", udpTo(host, 53), answer200},
		{"a port more", udpTo(host, 65535), answer200},
		{"no fields", headers(nil), answer400},
		{"a kind that is none", h3.Frame(1, "\xc1"), answer400},
		{"a line that is cut", h3.Frame(1, "\x41"), answer400},
		{"a name that is none", h3.Frame(1, "\x00\x01X\x01y"), answer400},
		{"17 fields", h3.Frame(1, strings.Repeat("\x93", 17)), answer400},
		{"16 fields", h3.Frame(1, strings.Repeat("\x93", 16)), answer400},
		{"without an authority", headers(other(":authority", "")), answer400},
		{"without a protocol", headers(other(":protocol", "")), answer400},
		{"http", headers(other(":scheme", "http")), answer400},
		{"another capsule-protocol", headers(other("capsule-protocol", "?0")), answer400},
		{"GET", headers(other(":method", "GET")), answer405},
		{"another protocol", headers(other(":protocol", "connect-tcp")), answer501},
		{"another path", headers(other(":path", "/")), answer404},
		{"packets' protocol with payloads' path", headers(other(":protocol", "connect-ip")), answer404},
		{"a port of 0", headers(other(":path", "/.well-known/masque/udp/10.0.0.1/0/")), answer404},
		{"a path ahead of the rules", headers(other(":path", "/.well-known/masque/udp/11.0.0.1/053/")), answer404},
		{"another address", udpTo(far, 53), answer403},
		{"the address below", udpTo(0x09FFFFFF, 53), answer403},
		{"the first address", udpTo(0x0A000000, 53), answer200},
		{"the last address", udpTo(0x0AFFFFFF, 53), answer200},
	} {
		for _, id := range []int64{0, 4, 28} {
			x, p := with(t, base())
			p.write(id, one.s, false)
			p.settle()
			if one.want == answer200 {
				p.wantGot(id, one.want, 0)
				x.wantTunnels(id)
			} else {
				p.wantGot(id, one.want, 1)
				x.wantTunnels()
			}
			x.wantState(2, 0)
			x.wantDropped(0)
			if t.Failed() {
				t.Fatal(one.name)
			}
		}
	}
}

// TestAnswerPieces is promise 23.1: that a request is answered once its frame is whole, however it is cut, and whatever strange frames stand ahead.
func TestAnswerPieces(t *testing.T) {
	all := h3.Frame(0x21, "strange") + udpTo(host, 53)
	for cut := range len(all) {
		x, p := with(t, base())
		p.write(0, all[:cut], false)
		p.settle()
		p.wantGot(0, "", 0)
		x.wantTunnels()
		p.write(0, all[cut:], false)
		p.settle()
		p.wantGot(0, answer200, 0)
		x.wantTunnels(0)
	}
}

// TestAnswerPackets is promise 23.1: the answer of a request for packets: 200, and then the own address and the routes; and of one where there is no route.
func TestAnswerPackets(t *testing.T) {
	for _, one := range []struct {
		name  string
		pool  uint32
		rules []api.Rule
		want  string
		end   int
	}{
		{"a net", pool, base().Rules, answer200 + "\x00\x15\x01\x07\x00\x04\xc0\x00\x02\x00\x20\x03\x0a\x04\x0a\x00\x00\x00\x0a\xff\xff\xff\x00", 0},
		{"no rules", pool, nil, answer403, 1},
		{"no route", pool, []api.Rule{rule(false, 0, 0, 0), rule(true, 0, host, 32)}, answer403, 1},
		{"all, and a pool at the end", math.MaxUint32, []api.Rule{rule(true, 0, 0, 0)}, answer200 + "\x00\x15\x01\x07\x00\x04\xff\xff\xff\xff\x20\x03\x0a\x04\x00\x00\x00\x00\xff\xff\xff\xff\x00", 0},
		{"two routes", 0, []api.Rule{rule(true, 17, 5, 32), rule(true, 6, 1, 32)}, answer200 + "\x00\x1f\x01\x07\x00\x04\x00\x00\x00\x00\x20\x03\x14\x04\x00\x00\x00\x01\x00\x00\x00\x01\x00\x04\x00\x00\x00\x05\x00\x00\x00\x05\x00", 0},
	} {
		x, p := with(t, changed(func(c *api.Tenant) { c.Pool, c.Rules = one.pool, one.rules }))
		p.write(0, ip(), false)
		p.settle()
		p.wantGot(0, one.want, one.end)
		x.wantState(2, 0)
		if t.Failed() {
			t.Fatal(one.name)
		}
	}
}

// TestAnswerManyRoutes is promise 23.1: the answer of packets with as many routes as are told, whose frame's count has two bytes.
func TestAnswerManyRoutes(t *testing.T) {
	var l []api.Rule
	var told strings.Builder
	for i := range uint32(20) {
		l = append(l, rule(true, 0, 2*i, 32))
		if i < 16 {
			told.WriteString("\x04\x00\x00\x00" + string([]byte{byte(2 * i)}) + "\x00\x00\x00" + string([]byte{byte(2 * i)}) + "\x00")
		}
	}
	_, p := with(t, changed(func(c *api.Tenant) { c.Rules = l }))
	p.write(0, ip(), false)
	p.settle()
	p.wantGot(0, answer200+"\x00\x40\xac\x01\x07\x00\x04\xc0\x00\x02\x00\x20\x03\x40\xa0"+told.String(), 0)
}

// TestQuota is promise 23.1: 429 by Quota: for each quota, with tunnels of both kinds; and that what the rules deny is 403 ahead of it.
func TestQuota(t *testing.T) {
	for quota := range 5 {
		x, p := with(t, changed(func(c *api.Tenant) { c.Quota = quota }))
		for i := range int64(6) {
			s := udpTo(host, 53)
			if i%2 == 1 {
				s = ip()
			}
			p.write(4*i, s, false)
			p.settle()
			if i < int64(quota) {
				if len(x.m.Tunnels()) != int(i)+1 {
					t.Errorf("quota %d: the tunnels are %v", quota, x.m.Tunnels())
				}
				continue
			}
			p.wantGot(4*i, answer429, 1)
		}
		p.write(24, udpTo(far, 53), false)
		p.write(28, headers(other(":path", "/")), false)
		p.settle()
		p.wantGot(24, answer403, 1)
		p.wantGot(28, answer404, 1)
		if len(x.m.Tunnels()) != quota {
			t.Errorf("quota %d: the tunnels are %v", quota, x.m.Tunnels())
		}
		x.wantDropped(0)
	}
}

// TestRising is promise 23.1: that the streams of requests are gone through rising, whatever was written first.
func TestRising(t *testing.T) {
	x, p := with(t, changed(func(c *api.Tenant) { c.Quota = 2 }))
	for _, id := range []int64{28, 8, 4, 24, 12} {
		p.write(id, udpTo(host, int(id)), false)
	}
	p.flush()
	x.wantTunnels(4, 8)
	p.push("\x01\x00a")
	p.push("\x02\x00b")
	p.settle()
	p.wantOut(api.Emit{Port: 40000, Addr: host, To: 4, Data: "a"}, api.Emit{Port: 40001, Addr: host, To: 8, Data: "b"})
	for _, id := range []int64{12, 24, 28} {
		p.wantGot(id, answer429, 1)
	}
}

// TestPlaces is promise 23.1: that a new tunnel gets the least place that is free, also after others were closed, on whatever stream it stands.
func TestPlaces(t *testing.T) {
	x, p := with(t, changed(func(c *api.Tenant) { c.Pool = math.MaxUint32 - 1 }))
	want := func(id int64, place int) {
		t.Helper()
		own := uint32(math.MaxUint32 - 1 + uint64(place))
		if id%8 == 0 {
			p.push(string([]byte{byte(id / 4), 0}) + "up")
			p.settle()
			p.wantOut(api.Emit{Port: 40000 + place, Addr: host, To: 53, Data: "up"})
			return
		}
		bytes := string([]byte{byte(own >> 24), byte(own >> 16), byte(own >> 8), byte(own)})
		if s := p.got[id]; len(s) < 13 || s[9:13] != bytes {
			t.Errorf("on the stream %d came %x, want the address %x", id, s, bytes)
		}
		h := going(own, "")
		p.push(string([]byte{byte(id / 4), 0}) + built(h))
		p.settle()
		p.wantOut(api.Emit{Ip: true, Addr: host, Data: hopped(h)})
	}
	open := func(id int64) {
		t.Helper()
		if id%8 == 0 {
			p.write(id, udpTo(host, 53), false)
		} else {
			p.write(id, ip(), false)
		}
		p.settle()
	}
	open(12)
	open(8)
	open(4)
	open(0)
	want(12, 0)
	want(8, 1)
	want(4, 2)
	want(0, 3)
	x.wantTunnels(0, 4, 8, 12)
	p.write(8, "", true)
	p.reset(4)
	p.settle()
	x.wantTunnels(0, 12)
	open(28)
	open(16)
	want(28, 1)
	want(16, 2)
	want(12, 0)
	want(0, 3)
	p.write(12, "", true)
	p.settle()
	open(20)
	want(20, 0)
	open(24)
	p.wantGot(24, answer429, 1)
	x.wantDropped(0)
}

// TestHeadersOnce is promise 23.1: that a second frame of Headers closes the connection, also of a request that was refused.
func TestHeadersOnce(t *testing.T) {
	for _, first := range []string{udpTo(host, 53), udpTo(far, 53), headers(nil)} {
		for _, apart := range []bool{false, true} {
			x, p := with(t, base())
			p.write(0, first, false)
			if apart {
				p.flush()
				x.wantState(2, 0)
			}
			p.write(0, udpTo(host, 53), false)
			p.flush()
			x.wantTunnels()
			p.wantClosed(api.CodeUnexp)
		}
	}
}

// TestReaderCodes is promise 23.1: that a code of a request's reader closes the connection with it, behind the events ahead of it, and that no other stream is served then.
func TestReaderCodes(t *testing.T) {
	for _, one := range []struct {
		name, s string
		code    int64
	}{
		{"Data first", data("x"), api.CodeUnexp},
		{"Settings", h3.Frame(4, ""), api.CodeUnexp},
		{"Goaway", h3.Frame(7, "\x00"), api.CodeUnexp},
		{"Headers that are too long", "\x01\x50\x01", api.CodeFrame},
		{"Settings behind Headers", udpTo(host, 53) + h3.Frame(4, ""), api.CodeUnexp},
	} {
		x, p := with(t, base())
		p.write(0, udpTo(host, 1), false)
		p.write(8, udpTo(host, 2), false)
		p.flush()
		p.push("\x00\x00waits")
		p.flush()
		p.write(0, data(gram("\x00also")), false)
		p.write(4, one.s, false)
		p.write(8, data(gram("\x00not taken")), false)
		p.write(12, udpTo(host, 3), false)
		p.push("\x00\x00nor this")
		p.flush()
		x.wantTunnels()
		x.wantDropped(2)
		p.wantClosed(one.code)
		p.wantOut()
		p.wantGot(12, "", 0)
		if t.Failed() {
			t.Fatal(one.name)
		}
	}
}

// TestEventsAheadOfCode is promise 23.1: that what stands ahead of a fault is done: what goes up there takes of the bucket, though it is dropped with its tunnel.
func TestEventsAheadOfCode(t *testing.T) {
	x, p := with(t, changed(func(c *api.Tenant) { c.Burst, c.Rate = 10, 0 }))
	p.write(0, udpTo(host, 53)+data(gram("\x00123456"))+h3.Frame(7, "\x00"), false)
	p.flush()
	x.wantDropped(1)
	p.wantClosed(api.CodeUnexp)
	q := connected(x, "client02")
	q.write(0, udpTo(host, 53), false)
	q.push("\x00\x0012345")
	q.push("\x00\x001234")
	q.settle()
	x.wantDropped(2)
	q.wantOut(api.Emit{Port: 40000, Addr: host, To: 53, Data: "1234"})
}

// TestEnded is promise 23.1: a stream's end: with a tunnel that is closed, what waits is dropped, and the end is written; without one nothing more is.
func TestEnded(t *testing.T) {
	for _, apart := range []bool{false, true} {
		x, p := with(t, base())
		p.write(0, udpTo(host, 53), false)
		p.write(4, ip(), false)
		p.write(8, udpTo(far, 53), false)
		p.flush()
		x.wantTunnels(0, 4)
		p.push("\x00\x00one")
		p.push("\x00\x00two")
		p.push("\x01\x00" + built(going(pool+1, "")))
		p.flush()
		for _, id := range []int64{0, 4, 8} {
			if apart {
				p.write(id, data(gram("\x00more")), false)
				p.flush()
				p.write(id, "", true)
			} else {
				p.write(id, data(gram("\x00more")), true)
			}
		}
		p.flush()
		x.wantTunnels()
		x.wantDropped(5)
		p.settle()
		p.wantOut()
		p.wantGot(0, answer200, 1)
		p.wantGot(4, answer200+"\x00\x15\x01\x07\x00\x04\xc0\x00\x02\x01\x20\x03\x0a\x04\x0a\x00\x00\x00\x0a\xff\xff\xff\x00", 1)
		p.wantGot(8, answer403, 1)
		x.wantState(2, 0)
		p.push("\x00\x00late")
		p.settle()
		x.wantDropped(6)
	}
}

// TestAskedAndEnded is promise 23.1: a request that ends with its own frame: it is answered, and its tunnel closed at once.
func TestAskedAndEnded(t *testing.T) {
	x, p := with(t, changed(func(c *api.Tenant) { c.Quota = 1 }))
	for id := int64(0); id <= 28; id += 4 {
		p.write(id, udpTo(host, 53), true)
		p.settle()
		x.wantTunnels()
		p.wantGot(id, answer200, 1)
	}
	x.wantState(2, 0)
}

// TestEndFaults is promise 23.1: the reader's End of a stream that has ended: the connection is closed with it.
func TestEndFaults(t *testing.T) {
	for _, one := range []struct {
		s    string
		code int64
	}{
		{"", api.CodeMessage},
		{h3.Frame(0x21, "strange"), api.CodeMessage},
		{"\x01", api.CodeFrame},
		{"\x40", api.CodeFrame},
		{udpTo(host, 53)[:20], api.CodeFrame},
		{udpTo(host, 53) + "\x00", api.CodeFrame},
		{udpTo(host, 53) + "\x00\x03ab", api.CodeFrame},
		{udpTo(far, 53) + "\x00\x03ab", api.CodeFrame},
	} {
		for _, apart := range []bool{false, true} {
			x, p := with(t, base())
			p.write(0, udpTo(host, 53), false)
			if apart {
				p.write(4, one.s, false)
				p.flush()
				x.wantState(2, 0)
				p.write(4, "", true)
			} else {
				p.write(4, one.s, true)
			}
			p.write(8, udpTo(far, 53), false)
			p.flush()
			x.wantTunnels()
			p.wantClosed(one.code)
			p.wantGot(8, "", 0)
		}
	}
}

// TestEndWithinCapsule is promise 23.1: a stream that ends between frames, within a capsule: nothing is wrong with that.
func TestEndWithinCapsule(t *testing.T) {
	x, p := with(t, base())
	p.write(0, udpTo(host, 53)+data("\x00\x05\x00a"), true)
	p.settle()
	x.wantState(2, 0)
	x.wantTunnels()
	x.wantDropped(0)
	p.wantGot(0, answer200, 1)
}

// TestReset is promise 23.1: a stream that was reset: its tunnel is closed, and it is done; nothing is written.
func TestReset(t *testing.T) {
	x, p := with(t, base())
	p.write(0, udpTo(host, 53), false)
	p.write(4, ip(), false)
	p.write(8, "\x01", false)
	p.write(12, udpTo(far, 53), false)
	p.write(16, udpTo(host, 54), false)
	p.settle()
	p.push("\x00\x00waits")
	p.push("\x01\x00" + built(going(pool+1, "")))
	p.push("\x04\x00stays")
	p.flush()
	for _, id := range []int64{0, 4, 8, 12} {
		p.reset(id)
	}
	p.reset(24)
	p.flush()
	x.wantTunnels(16)
	x.wantDropped(2)
	x.wantState(2, 0)
	p.settle()
	p.wantOut(api.Emit{Port: 40002, Addr: host, To: 54, Data: "stays"})
	p.wantGot(0, answer200, 0)
	p.wantGot(8, "", 0)
	p.wantGot(12, answer403, 1)
	p.wantGot(24, "", 0)
	for _, id := range []byte{0, 1, 2, 3, 6} {
		p.push(string([]byte{id, 0}) + "late")
	}
	p.settle()
	x.wantDropped(7)
	p.wantOut()
}

// TestResetUnread is promise 23.1: a stream that was reset in the packet that had the request: it is not answered.
func TestResetUnread(t *testing.T) {
	x, p := with(t, base())
	request := udpTo(host, 53)
	both, _ := frames.Write([]api.Frame{{Kind: api.FStream, Data: request}, {Kind: api.FReset, Off: int64(len(request))}})
	x.link(sealed(p, 2000, both))
	x.wantTunnels()
	x.wantState(2, 0)
	p.settle()
	p.wantGot(0, "", 0)
}

// TestRequestText is promise 23.1: that a request may be written by any lines that say the same.
func TestRequestText(t *testing.T) {
	var s strings.Builder
	for _, f := range target.Fields("proxy", api.Target{Addr: host, Port: 53}) {
		s.WriteString("\x00" + short(f.Name) + short(f.Value))
	}
	if _, e := fields.Read(s.String()); e != api.OK {
		t.Fatalf("the lines are not right: %d", e)
	}
	_, p := with(t, base())
	p.write(0, h3.Frame(1, s.String()), false)
	p.settle()
	p.wantGot(0, answer200, 0)
}
