package tenant_test

import (
	"testing"

	"vizard/api"
)

// TestDatagrams is promise 23.1: datagrams that came: of a stream with a tunnel, and the context 0, they go up; else they are dropped.
func TestDatagrams(t *testing.T) {
	for _, one := range []struct {
		name, s string
		dropped int
		want    []api.Emit
	}{
		{"of the stream 0", "\x00\x00hi", 0, []api.Emit{emitted("hi")}},
		{"without data", "\x00\x00", 0, []api.Emit{emitted("")}},
		{"in more bytes", "\x40\x00\x80\x00\x00\x00hi", 0, []api.Emit{emitted("hi")}},
		{"of packets", "\x01\x00" + built(going(pool+1, "x")), 0, []api.Emit{{Ip: true, Addr: host, Data: hopped(going(pool+1, "x"))}}},
		{"the context 1", "\x00\x01hi", 1, nil},
		{"the context 64", "\x00\x40\x40hi", 1, nil},
		{"the greatest context", "\x00\xff\xff\xff\xff\xff\xff\xff\xff", 1, nil},
		{"of a stream without a request", "\x02\x00hi", 1, nil},
		{"of the last stream", "\x07\x00hi", 1, nil},
		{"of a stream without a tunnel, and the context 1", "\x07\x01hi", 1, nil},
	} {
		x, p := asked(t, base())
		p.push(one.s)
		p.settle()
		p.wantOut(one.want...)
		x.wantDropped(one.dropped)
		x.wantTunnels(0, 4)
		x.wantState(2, 0)
		if t.Failed() {
			t.Fatal(one.name)
		}
	}
}

// TestDatagramFaults is promise 23.1: datagrams with an error of capsule.Open: the connection is closed with 33, those ahead go up, those behind are not taken.
func TestDatagramFaults(t *testing.T) {
	for _, s := range []string{"", "\x00", "\x40", "\x00\x40", "\x00\xc0\x00\x00\x00\x00\x00\x00", "\x08\x00", "\x08\x00hi", "\x3f\x00", "\x40\x08\x00", "\xff\xff\xff\xff\xff\xff\xff\xff\x00", "\x08\x01"} {
		x, p := asked(t, base())
		p.push("\x00\x00ahead")
		p.push("\x02\x00dropped")
		p.push(s)
		p.push("\x02\x00behind")
		p.push("\x00\x00behind")
		p.write(12, udpTo(far, 53), false)
		p.flush()
		x.wantTunnels()
		x.wantDropped(2)
		p.wantClosed(api.CodeDgram)
		p.wantOut()
		// Nor are they taken by another connection.
		q := connected(x, "client02")
		q.write(0, udpTo(host, 53), false)
		q.settle()
		q.wantOut()
		x.wantDropped(2)
		x.wantState(2, 0)
	}
}

// TestDatagramsOfAll is promise 23.1: datagrams of each of the eight streams, whatever became of its request.
func TestDatagramsOfAll(t *testing.T) {
	x, p := with(t, base())
	p.write(0, udpTo(host, 53), false)
	p.write(4, udpTo(far, 53), false)
	p.write(8, udpTo(host, 53), true)
	p.write(12, udpTo(host, 53), false)
	p.write(16, udpTo(host, 53)[:9], false)
	p.write(20, udpTo(host, 53)+data("\x00\x50\x01"), false)
	p.write(28, udpTo(host, 53), false)
	p.settle()
	p.reset(12)
	p.settle()
	x.wantTunnels(0, 28)
	for id := range byte(8) {
		p.push(string([]byte{id, 0}) + string([]byte{'a' + id}))
	}
	p.settle()
	// The places: the tunnel of 8 was closed ahead of the one of 12 that got its place, and so was that of 20 ahead of the one of 28.
	p.wantOut(emitted("a"), api.Emit{Port: 40002, Addr: host, To: 53, Data: "h"})
	x.wantDropped(6)
}

// TestRequestAheadOfDatagram is promise 23.1: that a request and a datagram in one packet are taken in this order.
func TestRequestAheadOfDatagram(t *testing.T) {
	x, p := with(t, base())
	p.push("\x00\x00hi")
	p.write(0, udpTo(host, 53)+data(gram("\x00ho")), false)
	p.settle()
	p.wantOut(emitted("ho"), emitted("hi"))
	p.push("\x00\x00late")
	p.write(0, "", true)
	p.settle()
	p.wantOut()
	x.wantDropped(1)
}

// TestManyDatagrams is promise 23.1: that of many datagrams all go up, in their order.
func TestManyDatagrams(t *testing.T) {
	x, p := asked(t, base())
	var want []api.Emit
	for i := range byte(32) {
		p.push("\x00\x00" + string([]byte{i}))
		want = append(want, emitted(string([]byte{i})))
	}
	p.flush()
	p.settle()
	p.wantOut(want...)
	x.wantDropped(0)
}
