package tenant_test

import (
	"math"
	"testing"

	"vizard/api"
)

// wantSlot asks Slot for how many bytes, and for an emission.
func (x *pair) wantSlot(name string, size int, want api.Emit, is bool) {
	x.t.Helper()
	s, sent, e, emitted := x.slot()
	if len(s) != size || sent != (size > 0) || e != want || emitted != is {
		x.t.Errorf("%s: Slot is %d bytes, %v, %.100v, %v; want %d bytes, %.100v, %v", name, len(s), sent, e, emitted, size, want, is)
	}
}

// TestSlot is promise 23.3 of a slot with nothing, with one of the two, and with both.
func TestSlot(t *testing.T) {
	x := newPair(t, base())
	x.wantSlot("without a connection", 0, api.Emit{}, false)
	p := newPeer(x, "client01")
	p.flush()
	x.wantSlot("the welcome", 45, api.Emit{}, false)
	x.wantSlot("the settings", 1200, api.Emit{}, false)
	x.wantSlot("nothing", 0, api.Emit{}, false)
	x.link(helloOf(t, "key", "client01", "client01client01"))
	x.wantSlot("the welcome again", 45, api.Emit{}, false)
	x.wantSlot("nothing again", 0, api.Emit{}, false)
	x.link(sealed(p, 0, "\x08\x00\x00\x00"+short(udpTo(host, 53))[0:1]+udpTo(host, 53)))
	x.link(sealed(p, 1, "\x30\x04\x00\x00hi\x30\x04\x00\x00ho"))
	x.wantSlot("both", 1200, emitted("hi"), true)
	x.wantSlot("an emission", 0, emitted("ho"), true)
	x.wantSlot("nothing in the end", 0, api.Emit{}, false)
	x.link(sealed(p, 2, "\x30\x04\x00\x00hu\x1c\x00"))
	x.wantSlot("nothing once it is closed", 0, api.Emit{}, false)
	x.wantState(3, 0)
}

// TestSlotCloses is promise 23.3 of a connection that was closed: that is told once, and what waited does not go out.
func TestSlotCloses(t *testing.T) {
	x, p := asked(t, base())
	p.push("\x00\x00waits")
	p.push("\x3f\x00")
	p.flush()
	x.wantState(3, api.CodeDgram)
	x.wantSlot("the close", 1200, api.Emit{}, false)
	x.wantSlot("nothing", 0, api.Emit{}, false)
	x.tick()
	x.wantSlot("still nothing", 0, api.Emit{}, false)
	x.wantDropped(1)
}

// TestSlotTicks is promise 23.3 of the tick, which the connection is told: what was lost is sent again once the wait is over.
func TestSlotTicks(t *testing.T) {
	x, p := with(t, base())
	p.write(0, udpTo(host, 53), false)
	p.flush()
	x.wantSlot("the answer, which is lost", 1200, api.Emit{}, false)
	for range 7 {
		x.now++
		x.wantSlot("nothing", 0, api.Emit{}, false)
	}
	x.now++
	p.turn()
	p.wantGot(0, answer200, 0)
}

// TestAnyTick is promises 23.1 to 23.3 at ticks as far apart as ticks may be, rising, falling and the same.
func TestAnyTick(t *testing.T) {
	for _, ticks := range [][]int64{{math.MinInt64, math.MaxInt64}, {math.MaxInt64, math.MinInt64}, {0, -1, 1}, {math.MinInt64}, {math.MaxInt64}} {
		x := newPair(t, base())
		p := newPeer(x, "client01")
		step := func(i int) {
			t.Helper()
			x.now = ticks[i%len(ticks)]
			p.send()
			x.payload(40000, host, 53, "down")
			x.packet(built(coming(pool, "down")))
			p.turn()
			p.turn()
		}
		for i := range 6 {
			step(i)
		}
		p.write(0, udpTo(host, 53)+data(gram("\x00up")), false)
		for i := range 20 {
			step(i)
		}
		p.wantGot(0, answer200, 0)
		p.wantOut(emitted("up"))
	}
}

// TestSlotEmpties is promise 23.3 of packets that wait: one goes out in each slot.
func TestSlotEmpties(t *testing.T) {
	x, p := asked(t, base())
	for i := range byte(5) {
		p.push("\x00\x00" + string([]byte{i}))
	}
	p.flush()
	for i := range byte(5) {
		if _, _, e, is := x.slot(); !is || e != emitted(string([]byte{i})) {
			t.Errorf("the slot %d emits %.100v, %v", i, e, is)
		}
	}
	x.wantSlot("nothing", 0, api.Emit{}, false)
}

// TestState is promise 23.4 of the state: without a connection, in phase 2, and closed by each end.
func TestState(t *testing.T) {
	x := newPair(t, base())
	x.wantState(0, 0)
	p := connected(x, "client01")
	x.wantState(2, 0)
	p.c.Close(77)
	p.settle()
	x.wantState(3, 77)
	q := connected(x, "client02")
	x.wantState(2, 0)
	q.push("")
	q.settle()
	x.wantState(3, api.CodeDgram)
	q.wantClosed(api.CodeDgram)
}

// TestTunnels is promise 23.4 of the streams that have a tunnel: rising, whatever was opened first.
func TestTunnels(t *testing.T) {
	x, p := with(t, base())
	x.wantTunnels()
	for _, id := range []int64{20, 4, 28, 0} {
		p.write(id, ip(), false)
		p.settle()
	}
	x.wantTunnels(0, 4, 20, 28)
	p.reset(4)
	p.settle()
	x.wantTunnels(0, 20, 28)
	p.write(8, udpTo(host, 1), false)
	p.settle()
	x.wantTunnels(0, 8, 20, 28)
}

// TestDropped is promise 23.4 of what was dropped: all of it together, of every connection; it never falls.
func TestDropped(t *testing.T) {
	x, p := asked(t, changed(func(c *api.Tenant) { c.Burst, c.Rate, c.Queue = 4, 0, 2 }))
	x.payload(1, host, 53, "no such port")
	x.packet("no packet")
	p.push("\x02\x00no tunnel")
	p.push("\x00\x07another context")
	p.write(0, data(gram("")+gram("\x09")), false)
	p.push("\x01\x00no packet")
	p.push("\x00\x00too many bytes")
	p.push("\x00\x00a")
	p.push("\x00\x00b")
	p.push("\x00\x00the queue is full"[:4])
	p.flush()
	x.wantDropped(9)
	p.write(0, "", true)
	p.flush()
	x.wantDropped(11)
	connected(x, "client02")
	x.wantDropped(11)
}
