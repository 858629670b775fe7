package tenant_test

import (
	"slices"
	"strings"
	"testing"

	"vizard/api"
	"vizard/capsule"
	"vizard/h3"
)

// emitted is the emission of a payload from the first place.
func emitted(s string) api.Emit {
	return api.Emit{Port: 40000, Addr: host, To: 53, Data: s}
}

// asked is a client with a tunnel of payloads on the stream 0, and one of packets on the stream 4.
func asked(t *testing.T, c api.Tenant) (*pair, *peer) {
	t.Helper()
	x, p := with(t, c)
	p.write(0, udpTo(host, 53), false)
	p.write(4, ip(), false)
	p.settle()
	x.wantTunnels(0, 4)
	x.wantDropped(0)
	return x, p
}

// TestCapsules is promise 23.1: capsules of a request with a tunnel: those of Datagram go up, with the context 0; with another one, or none, they are dropped; all others are passed over.
func TestCapsules(t *testing.T) {
	for _, one := range []struct {
		name, s string
		dropped int
		want    []api.Emit
	}{
		{"the context 0", gram("\x00hi"), 0, []api.Emit{emitted("hi")}},
		{"nothing behind it", gram("\x00"), 0, []api.Emit{emitted("")}},
		{"the context 0 in two bytes", gram("\x40\x00hi"), 0, []api.Emit{emitted("hi")}},
		{"the context 0 in eight bytes", gram("\xc0\x00\x00\x00\x00\x00\x00\x00hi"), 0, []api.Emit{emitted("hi")}},
		{"the context 1", gram("\x01hi"), 1, nil},
		{"the context 63", gram("\x3f\x00hi"), 1, nil},
		{"the context 64", gram("\x40\x40\x00hi"), 1, nil},
		{"the greatest context", gram("\xff\xff\xff\xff\xff\xff\xff\xff\x00hi"), 1, nil},
		{"no context", gram(""), 1, nil},
		{"a context that is cut", gram("\x40"), 1, nil},
		{"a context that is cut in eight", gram("\xc0\x00\x00\x00\x00\x00\x00"), 1, nil},
		{"Assign", capsule.Write(capsule.Capsule{Kind: 1, Data: "\x00hi"}), 0, nil},
		{"Request", capsule.Write(capsule.Capsule{Kind: 2, Data: "\x00\x04"}), 0, nil},
		{"Routes", capsule.Write(capsule.Capsule{Kind: 3}), 0, nil},
		{"a kind without a name", capsule.Write(capsule.Capsule{Kind: 64, Data: "\x00hi"}), 0, nil},
		{"the greatest kind", capsule.Write(capsule.Capsule{Kind: api.MaxVarint}), 0, nil},
		{"the kind 0 in two bytes", "\x40\x00\x03\x00hi", 0, []api.Emit{emitted("hi")}},
		{"several", gram("\x00a") + capsule.Write(capsule.Capsule{Kind: 1, Data: "b"}) + gram("\x01c") + gram("") + gram("\x00d"), 2, []api.Emit{emitted("a"), emitted("d")}},
		{"one that is not whole", gram("\x00hi")[:4], 0, nil},
	} {
		x, p := asked(t, base())
		p.write(0, data(one.s), false)
		p.settle()
		p.wantOut(one.want...)
		x.wantDropped(one.dropped)
		x.wantTunnels(0, 4)
		x.wantState(2, 0)
		if t.Failed() {
			t.Fatal(one.name)
		}
	}
}

// TestCapsulesCut is promise 23.1: that capsules are put together however they are cut, among frames of Data and among packets; and behind the frame of the request itself.
func TestCapsulesCut(t *testing.T) {
	all := gram("\x00one") + capsule.Write(capsule.Capsule{Kind: 9, Data: "x"}) + gram("\x00two") + gram("\x07no") + gram("\x00three")
	for first := 0; first < len(all); first++ {
		for _, apart := range []bool{false, true} {
			x, p := with(t, base())
			p.write(0, udpTo(host, 53)+data(all[:first])+h3.Frame(0x21, all), false)
			if apart {
				p.flush()
			}
			p.write(0, data(all[first:]), false)
			p.settle()
			p.wantOut(emitted("one"), emitted("two"), emitted("three"))
			x.wantDropped(1)
		}
	}
	_, p := with(t, base())
	for _, b := range []byte(udpTo(host, 53) + data(all)) {
		p.write(0, string([]byte{b}), false)
		p.flush()
		p.turn()
	}
	p.settle()
	p.wantOut(emitted("one"), emitted("two"), emitted("three"))
}

// TestCapsulesOfEach is promise 23.1: that each request has capsules of its own, and another connection's requests have new ones.
func TestCapsulesOfEach(t *testing.T) {
	x, p := with(t, base())
	p.write(0, udpTo(host, 53)+data(gram("\x00one")[:3]), false)
	p.write(8, udpTo(host, 54)+data(gram("\x00two")[:4]), false)
	p.settle()
	p.write(8, data(gram("\x00two")[4:]), false)
	p.settle()
	p.wantOut(api.Emit{Port: 40001, Addr: host, To: 54, Data: "two"})
	q := connected(x, "client02")
	q.write(0, udpTo(host, 53)+data(gram("\x00three")), false)
	q.settle()
	q.wantOut(emitted("three"))
	x.wantDropped(0)
}

// TestDataWithoutTunnel is promise 23.1: that Data of a request without a tunnel is passed over: nothing is dropped, no capsule is too great.
func TestDataWithoutTunnel(t *testing.T) {
	x, p := with(t, base())
	great := "\x00\x80\x10\x00\x01"
	p.write(0, udpTo(far, 53)+data(gram("\x00hi")+gram("\x01hi")+great), false)
	p.settle()
	p.write(0, data(great+"x"), false)
	p.settle()
	p.wantGot(0, answer403, 1)
	x.wantState(2, 0)
	x.wantDropped(0)
	p.write(0, data("x"), true)
	p.settle()
	x.wantState(2, 0)
	p.wantOut()
}

// TestGreatCapsule is promise 23.1: ErrLong: what stands ahead goes up, the stream is reset, the tunnel is closed, and the request is done, whatever comes behind.
func TestGreatCapsule(t *testing.T) {
	for _, behind := range []string{"", data(gram("\x00more")), udpTo(host, 53), h3.Frame(4, ""), "\x00"} {
		for _, fin := range []bool{false, true} {
			for _, great := range []string{"\x00\x50\x01", "\x07\x50\x01", "\x00\x80\x00\x10\x01", "\x01\xff\xff\xff\xff\xff\xff\xff\xff"} {
				x, p := asked(t, base())
				p.push("\x00\x00waits")
				p.flush()
				p.write(0, data(gram("\x00a")+gram("\x01b")+great+gram("\x00c"))+behind, fin)
				p.push("\x00\x00late")
				p.flush()
				x.wantTunnels(4)
				x.wantDropped(4)
				x.wantState(2, 0)
				p.settle()
				p.wantOut()
				// It was reset: what was written ahead had come.
				p.wantGot(0, answer200, 2)
				if !fin {
					p.write(0, udpTo(host, 53)+"\x04", true)
				}
				p.write(8, udpTo(host, 54), false)
				p.settle()
				x.wantState(2, 0)
				x.wantTunnels(4, 8)
				p.push("\x02\x00free")
				p.settle()
				p.wantOut(api.Emit{Port: 40000, Addr: host, To: 54, Data: "free"})
				x.wantDropped(4)
			}
		}
	}
}

// TestCapsuleOf4096 is promise 23.1: a capsule that is as great as one may be: it is put together, and dropped only as a payload is too long.
func TestCapsuleOf4096(t *testing.T) {
	x, p := asked(t, base())
	p.write(0, data(gram("\x00"+strings.Repeat("x", 4095))), false)
	p.settle()
	p.write(0, data(gram("\x00"+strings.Repeat("x", 1000))), false)
	p.settle()
	p.wantOut(emitted(strings.Repeat("x", 1000)))
	x.wantDropped(1)
	x.wantTunnels(0, 4)
	p.write(0, data(gram("\x00"+strings.Repeat("x", 4096))), false)
	p.settle()
	x.wantTunnels(4)
	x.wantState(2, 0)
}

// TestLongStream is promise 23.1: that a request goes on beyond what a stream keeps: its limit grows as it is read.
func TestLongStream(t *testing.T) {
	x, p := asked(t, changed(func(c *api.Tenant) { c.Burst = 1 << 30 }))
	for range 50 {
		p.write(0, data(gram("\x00"+strings.Repeat("y", 900))), false)
		p.settle()
		p.wantOut(emitted(strings.Repeat("y", 900)))
	}
	x.wantDropped(0)
}

// TestGap is promise 23.1: bytes that came behind a gap: once that is filled, all of them are fed at once.
func TestGap(t *testing.T) {
	for _, stream := range []int64{0, 2} {
		x, p := asked(t, base())
		if stream == 0 {
			p.write(0, strings.Repeat(data(gram("\x00"+strings.Repeat("x", 400))+gram("\x01")), 9), false)
		} else {
			p.write(2, h3.Frame(0x21, strings.Repeat("x", 3900))+"\x01", false)
			p.write(2, "\x00", false)
		}
		var packets []string
		for s, ok := p.c.Send(x.now, 1200); ok; s, ok = p.c.Send(x.now, 1200) {
			packets = append(packets, s)
		}
		if len(packets) != 4 {
			t.Fatalf("%d packets", len(packets))
		}
		for _, s := range packets[1:] {
			x.link(s)
		}
		x.wantDropped(0)
		x.wantState(2, 0)
		x.link(packets[0])
		if stream == 0 {
			x.wantDropped(9)
			p.settle()
			p.wantOut(slices.Repeat([]api.Emit{emitted(strings.Repeat("x", 400))}, 9)...)
		} else {
			p.wantClosed(api.CodeUnexp)
		}
	}
}
