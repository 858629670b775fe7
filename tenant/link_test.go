package tenant_test

import (
	"fmt"
	"math"
	"strings"
	"testing"

	"vizard/api"
	"vizard/conn"
)

// helloOf is a hello's packet.
func helloOf(t *testing.T, psk, name, nonce string) string {
	t.Helper()
	c, e := conn.Dial(psk, name, nonce)
	if e != api.OK {
		t.Fatalf("Dial: error %d", e)
	}
	s, _ := c.Send(0, 1200)
	return s
}

// welcomeOf is the packet that a server's end sends first.
func welcomeOf(t *testing.T, psk, name, theirs, nonce string) string {
	t.Helper()
	c, e := conn.Accept(psk, name, theirs, nonce)
	if e != api.OK {
		t.Fatalf("Accept: error %d", e)
	}
	s, _ := c.Send(0, 1200)
	return s
}

const someNonce = "0123456789abcdef"

// The draws of the seed 7, as another program works them out.
const (
	firstDraw  = "c3b843eedbc2266f8fadac2527258b4d"
	secondDraw = "163e401bf44f0ee820f18fadca570020"
)

// TestDraws is promise 23.1 of the draws, the first, the second and later ones, byte by byte: each connection's welcome has its own.
func TestDraws(t *testing.T) {
	for _, seed := range []uint64{0, 1, 7, 0x0102030405060708, math.MaxUint64} {
		x := newPair(t, changed(func(c *api.Tenant) { c.Seed = seed }))
		for i := range 300 {
			name := fmt.Sprintf("name%04d", i)
			x.link(helloOf(t, "key", name, someNonce))
			x.wantState(2, 0)
			if s, _, _, _ := x.slot(); s != welcomeOf(t, "key", name, someNonce, drawOf(seed, uint64(i))) {
				t.Fatalf("the seed %d: the draw %d is another one", seed, i)
			}
		}
	}
}

// TestFirstDraw is promise 23.1 of draws as bytes.
func TestFirstDraw(t *testing.T) {
	for i, want := range []string{firstDraw, secondDraw} {
		if s := drawOf(7, uint64(i)); fmt.Sprintf("%x", s) != want {
			t.Errorf("the draw %d is %x, want %s", i, s, want)
		}
	}
}

// TestLinkWithoutHello is promise 23.1 of bytes that are no hello, as long as there is no connection: nothing comes of them.
func TestLinkWithoutHello(t *testing.T) {
	hello := helloOf(t, "key", "client01", someNonce)
	damaged := hello[:44] + string([]byte{hello[44] ^ 1})
	for name, s := range map[string]string{
		"nothing":              "",
		"one byte":             "\x01",
		"a hello that is cut":  hello[:44],
		"28 bytes":             hello[:28],
		"a byte more":          hello + "\x00",
		"a damaged hello":      damaged,
		"another name":         hello[:1] + "X" + hello[2:],
		"another kind":         "\x03" + hello[1:],
		"another number":       hello[:12] + "\x01" + hello[13:],
		"another key":          helloOf(t, "kez", "client01", someNonce),
		"a welcome":            welcomeOf(t, "key", "client01", someNonce, someNonce),
		"very many bytes":      "\x01" + strings.Repeat("x", 1<<17),
		"a hello behind bytes": "\x00" + hello,
	} {
		x := newPair(t, base())
		x.link(s)
		x.wantState(0, 0)
		if s, sent, _, _ := x.slot(); sent {
			t.Errorf("%s: Slot sends %x", name, s)
		}
		// Nothing was drawn for it.
		x.link(hello)
		if s, _, _, _ := x.slot(); s != welcomeOf(t, "key", "client01", someNonce, drawOf(7, 0)) {
			t.Errorf("%s: the welcome behind it is another one", name)
		}
	}
}

// TestSettings is promise 23.1 of the stream 3: it is written once for each connection, with its bytes.
func TestSettings(t *testing.T) {
	x, p := with(t, base())
	const want = "\x00\x04\x04\x08\x01\x33\x01"
	p.wantGot(3, want, 0)
	for range 5 {
		p.push("\x00\x00x")
		p.write(2, "\x21\x00", false)
		p.settle()
	}
	x.link(helloOf(t, "key", "client01", "client01client01"))
	p.settle()
	p.wantGot(3, want, 0)
	q := connected(x, "client02")
	q.wantGot(3, want, 0)
}

// TestSameHello is promise 23.1 of the same hello again: the welcome is sent once more, and nothing is changed.
func TestSameHello(t *testing.T) {
	x, p := with(t, base())
	p.write(0, udpTo(host, 53), false)
	p.settle()
	hello := helloOf(t, "key", "client01", "client01client01")
	for range 3 {
		x.link(hello)
		x.wantTunnels(0)
		if s, _, _, _ := x.slot(); s != welcomeOf(t, "key", "client01", "client01client01", drawOf(7, 0)) {
			t.Error("the welcome that comes again is another one")
		}
		if s, sent, _, _ := x.slot(); sent {
			t.Errorf("%d bytes are sent behind the welcome", len(s))
		}
	}
	// Nor does one of the same name with another nonce change anything.
	x.link(helloOf(t, "key", "client01", someNonce))
	x.wantTunnels(0)
	x.wantState(2, 0)
	if s, sent, _, _ := x.slot(); sent {
		t.Errorf("%d bytes are sent for another nonce", len(s))
	}
	p.push("\x00\x00still")
	p.settle()
	p.wantOut(api.Emit{Port: 40000, Addr: host, To: 53, Data: "still"})
}

// TestAnothersHello is promise 23.1 of another's hello: the tunnels are closed, what waits is dropped, the requests are new, and the next draw is taken.
func TestAnothersHello(t *testing.T) {
	x, p := with(t, base())
	p.write(0, udpTo(host, 53), false)
	p.write(4, ip(), false)
	p.write(8, udpTo(far, 53), true)
	p.settle()
	x.wantTunnels(0, 4)
	p.push("\x00\x00one")
	p.push("\x00\x00two")
	p.push("\x01\x00" + built(going(pool+1, "")))
	p.write(12, "\x01\x40", false) // a part of a frame
	p.flush()
	x.wantDropped(0)
	x.link(helloOf(t, "key", "client02", "client02client02"))
	x.wantTunnels()
	x.wantDropped(3)
	x.wantState(2, 0)
	if s, _, _, emitted := x.slot(); emitted || s != welcomeOf(t, "key", "client02", "client02client02", drawOf(7, 1)) {
		t.Errorf("behind another's hello %d bytes are sent, and emitted is %v", len(s), emitted)
	}
	x.payload(40000, host, 53, "late")
	x.packet(built(coming(pool+1, "late")))
	x.wantDropped(5)
	// What the first one sends now is none of the connection's.
	p.push("\x00\x00three")
	p.flush()
	x.wantDropped(5)
	q := connected(x, "client02")
	for _, id := range []int64{0, 4, 8, 12} {
		q.write(id, udpTo(host, int(53+id)), false)
	}
	q.settle()
	for _, id := range []int64{0, 4, 8, 12} {
		q.wantGot(id, "\x01\x01\x88", 0)
	}
	x.wantTunnels(0, 4, 8, 12)
	// The first one's hello again is another's, too.
	x.link(helloOf(t, "key", "client01", "client01client01"))
	x.wantTunnels()
	if s, _, _, _ := x.slot(); s != welcomeOf(t, "key", "client01", "client01client01", drawOf(7, 2)) {
		t.Error("the third welcome is another one")
	}
}

// TestHelloBehindClose is promise 23.1 of a connection that is closed: a hello of its name changes nothing, another's opens a new one.
func TestHelloBehindClose(t *testing.T) {
	x, p := with(t, base())
	p.write(2, "", true)
	p.flush()
	x.wantState(3, 0x104)
	x.link(helloOf(t, "key", "client01", "client01client01"))
	x.link(helloOf(t, "key", "client01", someNonce))
	x.wantState(3, 0x104)
	q := connected(x, "client02")
	x.wantState(2, 0)
	q.write(0, udpTo(host, 53), false)
	q.settle()
	q.wantGot(0, "\x01\x01\x88", 0)
	q.wantGot(3, "\x00\x04\x04\x08\x01\x33\x01", 0)
}

// TestKeys is promise 23.1 of keys of every size that is right.
func TestKeys(t *testing.T) {
	for size := 1; size <= 64; size += 21 {
		_, p := with(t, changed(func(c *api.Tenant) { c.Psk = strings.Repeat("\xfe", size) }))
		p.write(0, udpTo(host, 53), false)
		p.settle()
		p.wantGot(0, "\x01\x01\x88", 0)
	}
}
