package tenant_test

import (
	"strings"
	"testing"

	"vizard/api"
	"vizard/h3"
)

// waits is a client that is connected, has a tunnel in which a packet waits, and did not yet write to the stream 2.
func waits(t *testing.T) (*pair, *peer) {
	t.Helper()
	x := newPair(t, base())
	p := newPeer(x, "client01")
	p.settle()
	p.write(0, udpTo(host, 53), false)
	p.settle()
	p.push("\x00\x00waits")
	p.flush()
	x.wantTunnels(0)
	x.wantDropped(0)
	return x, p
}

// TestControlRight is promise 23.1: the pump's part 2 of a stream 2 that is right, however it is cut: nothing comes of it.
func TestControlRight(t *testing.T) {
	all := "\x00" + h3.Frame(0x21, "strange") + h3.Frame(4, "\x06\x07\x08\x01") + h3.Frame(7, "\x04") + h3.Frame(0x40, "") + h3.Frame(7, "\x00")
	for cut := 1; cut <= len(all); cut++ {
		x, p := waits(t)
		for rest := all; rest != ""; {
			size := min(cut, len(rest))
			p.write(2, rest[:size], false)
			p.flush()
			p.settle()
			rest = rest[size:]
		}
		x.wantState(2, 0)
		x.wantTunnels(0)
		p.wantOut(api.Emit{Port: 40000, Addr: host, To: 53, Data: "waits"})
	}
}

// TestControlFaults is promise 23.1: the pump's part 2 of codes of the stream 2's reader: the connection is closed with it, all tunnels are closed, and what waits is dropped.
func TestControlFaults(t *testing.T) {
	for _, one := range []struct {
		name, s string
		code    int64
	}{
		{"another first byte", "\x01", api.CodeUnexp},
		{"Data", "\x00" + data("x"), api.CodeUnexp},
		{"Headers", "\x00" + ip(), api.CodeUnexp},
		{"Settings twice", "\x00\x04\x00\x04\x00", api.CodeUnexp},
		{"Goaway first", "\x00" + h3.Frame(7, "\x00"), api.CodeMissing},
		{"Goaway that is none", "\x00\x04\x00" + h3.Frame(7, "\x00\x00"), api.CodeFrame},
		{"Settings that are too long", "\x00" + h3.Frame(4, strings.Repeat("\x06", 4097))[:3], api.CodeFrame},
		{"Settings that are none", "\x00" + h3.Frame(4, "\x02\x00"), api.CodeSettings},
		{"one behind what is right", "\x00\x04\x02\x06\x07" + h3.Frame(0x21, "") + data(""), api.CodeUnexp},
	} {
		for _, fin := range []bool{false, true} {
			for _, cut := range []int{0, 1, len(one.s) - 1} {
				x, p := waits(t)
				p.write(2, one.s[:cut], false)
				p.flush()
				p.write(2, one.s[cut:], fin)
				p.flush()
				x.wantTunnels()
				x.wantDropped(1)
				p.wantClosed(one.code)
				p.wantOut()
			}
		}
	}
}

// TestControlEnds is promise 23.1: the pump's part 2 of a stream 2 that has ended, or was reset: 104.
func TestControlEnds(t *testing.T) {
	for _, s := range []string{"", "\x00", "\x00\x04", "\x00\x04\x00", "\x00\x04\x00" + h3.Frame(7, "\x04")} {
		for _, apart := range []bool{false, true} {
			x, p := waits(t)
			if apart {
				p.write(2, s, false)
				p.flush()
				x.wantState(2, 0)
				s = ""
			}
			p.write(2, s, true)
			p.flush()
			x.wantTunnels()
			x.wantDropped(1)
			p.wantClosed(0x104)
		}
		x, p := waits(t)
		p.write(2, s, false)
		p.flush()
		p.reset(2)
		p.flush()
		x.wantTunnels()
		x.wantDropped(1)
		p.wantClosed(0x104)
	}
}

// TestControlGap is promise 23.1: the pump's part 2 of an end that came ahead of bytes: the stream has ended once these were read.
func TestControlGap(t *testing.T) {
	x, p := waits(t)
	p.write(2, "\x00\x04", false)
	first, _ := p.c.Send(x.now, 1200)
	p.write(2, "\x00", true)
	second, _ := p.c.Send(x.now, 1200)
	x.link(second)
	x.wantState(2, 0)
	x.wantTunnels(0)
	x.link(first)
	x.wantTunnels()
	p.wantClosed(0x104)
}

// TestClosedAlone is promise 23.1: that behind a fault of the stream 2 nothing more of the pump is done: requests are not answered, datagrams not taken.
func TestClosedAlone(t *testing.T) {
	x, p := waits(t)
	p.write(2, "\x01", false)
	p.write(4, udpTo(far, 53), false)
	p.write(8, "\x04\x00", false)
	p.push("\x01\x00dropped, if it were taken")
	p.push("\x00\x00goes, if it were taken")
	p.flush()
	x.wantDropped(1)
	p.wantClosed(api.CodeUnexp)
	p.wantGot(4, "", 0)
	p.wantOut()
}

// TestClosedByClient is promise 23.1: that once the client has closed the connection all tunnels are closed, and nothing more is done.
func TestClosedByClient(t *testing.T) {
	for _, code := range []int64{0, 0x100, api.MaxVarint} {
		x, p := waits(t)
		p.write(4, ip(), false)
		p.settle()
		x.wantTunnels(0, 4)
		p.out = nil
		p.push("\x00\x00waits")
		p.push("\x01\x00" + built(going(pool+1, "")))
		p.flush()
		p.c.Close(code)
		p.flush()
		x.wantState(3, code)
		x.wantTunnels()
		x.wantDropped(2)
		x.payload(40000, host, 53, "late")
		x.packet(built(coming(pool+1, "late")))
		x.wantDropped(4)
		p.wantOut()
		if s, sent, _, emitted := x.slot(); sent || emitted {
			t.Errorf("%d bytes are sent, and emitted is %v", len(s), emitted)
		}
	}
}

// TestClosedByFrames is promise 23.1: that packets that are right, with frames that are not, close the connection, and with it all tunnels.
func TestClosedByFrames(t *testing.T) {
	for _, one := range []struct {
		frame string
		code  int64
	}{
		{"\x08\x03\x00\x00\x00", api.CodeProto},
		{"\x99", api.CodeProto},
		{"\x08\x08\x53\x88\x00\x01x", api.CodeFlow},
		{"\x08\x08\x00\x01\x01x\x08\x08\x01\x00\x01x", api.CodeFinal},
	} {
		x, p := waits(t)
		x.link(sealed(p, 1000, one.frame))
		x.wantTunnels()
		x.wantDropped(1)
		p.wantClosed(one.code)
	}
}
