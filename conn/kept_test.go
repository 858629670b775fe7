package conn

import (
	"testing"

	"vizard/api"
	"vizard/frames"
)

// openPair is two ends whose handshake is over.
func openPair(t *testing.T) (*Conn, *Conn) {
	t.Helper()
	a, _ := Dial("key", "connect0", "1234567890123456")
	b, _ := Accept("key", "connect0", "1234567890123456", "abcdefghijklmnop")
	a.Send(0, 128)
	welcome, _ := b.Send(0, 128)
	if e := a.Recv(0, welcome); e != api.OK {
		t.Fatalf("the welcome is refused: %d", e)
	}
	return a, b
}

// wantKept asks for the packets that are remembered, and how many frames of each.
func wantKept(t *testing.T, c *Conn, name string, want map[int64]int) {
	t.Helper()
	if len(c.sent) != len(want) {
		t.Fatalf("%s: %d packets are remembered, want %d", name, len(c.sent), len(want))
	}
	for n, many := range want {
		if l, has := c.sent[n]; !has || len(l) != many {
			t.Fatalf("%s: of %d %d frames are remembered (%v), want %d", name, n, len(l), has, many)
		}
	}
}

// told lets an end take an FAck.
func told(t *testing.T, from, to *Conn, low, high int64) {
	t.Helper()
	l := newLoad(128)
	l.add(api.Frame{Kind: api.FAck, Ranges: []api.Range{{Low: low, High: high}}})
	if e := to.Recv(0, from.sealData(l)); e != api.OK {
		t.Fatalf("the FAck is refused: %d", e)
	}
}

// TestKeptPackets is the chapter's section 'Ways': packets that were sent are remembered while they are on their way, with what is sent again, and no longer.
func TestKeptPackets(t *testing.T) {
	a, b := openPair(t)
	wantKept(t, a, "nothing was sent", nil)
	a.Push("d")
	a.Write(0, "abc", false)
	a.Write(4, "abc", false)
	a.Send(0, 1200)
	a.Push("d")
	a.Send(0, 1200)
	a.Reset(0, 1)
	a.Send(0, 1200)
	wantKept(t, a, "sent", map[int64]int{0: 2, 1: 0, 2: 1})
	told(t, b, a, 1, 2)
	wantKept(t, a, "told", map[int64]int{0: 2})
	told(t, b, a, 0, 2)
	wantKept(t, a, "all told", nil)
	a.Write(4, "def", true)
	for range 4 {
		a.Push("d")
		a.Send(0, 128)
	}
	told(t, b, a, 6, 6)
	wantKept(t, a, "the first is lost", map[int64]int{4: 0, 5: 0})
	a.Send(0, 128)
	wantKept(t, a, "sent again", map[int64]int{4: 0, 5: 0, 7: 1})
	a.Send(8, 128)
	wantKept(t, a, "lost and sent again", map[int64]int{8: 1})
	a.Close(0)
	wantKept(t, a, "closed", nil)
}

// TestKeptNothing is the chapter's section 'Ways' of packets that ask for no answer: nobody remembers them.
func TestKeptNothing(t *testing.T) {
	a, b := openPair(t)
	for range 100 {
		a.Push("d")
		p, _ := a.Send(0, 128)
		if e := b.Recv(0, p); e != api.OK {
			t.Fatalf("refused: %d", e)
		}
		b.Pull()
		p, ok := b.Send(0, 128)
		if !ok {
			t.Fatal("no FAck is sent")
		}
		a.Recv(0, p)
		wantKept(t, b, "the other end", nil)
		wantKept(t, a, "this end", nil)
	}
	if packets, bytes := b.ledger.Flight(); packets != 0 || bytes != 0 {
		t.Fatalf("%d packets are on their way", packets)
	}
}

// TestKeptGreeting is promise 13.2: a client that was welcomed greets no more, and keeps nothing for it.
func TestKeptGreeting(t *testing.T) {
	a, b := openPair(t)
	if a.psk != "" || a.nonce != "" || a.greeting != "" {
		t.Fatal("the client keeps what it greeted with")
	}
	if b.psk == "" || b.nonce == "" || len(b.greeting) != 45 {
		t.Fatal("the server may have to welcome once more")
	}
}

// TestKeptStreams is the chapter's section 'Ways': what is kept of a stream embeds its boxes, where the end may read and write.
func TestKeptStreams(t *testing.T) {
	a, b := openPair(t)
	if len(a.streams) != 10 || len(b.streams) != 10 {
		t.Fatalf("%d and %d streams", len(a.streams), len(b.streams))
	}
	for i, s := range a.streams {
		other := b.streams[i]
		if s.id != other.id || (s.coming == nil) != (other.going == nil) || (s.going == nil) != (other.coming == nil) {
			t.Fatalf("the ends of %d do not belong together", s.id)
		}
		if s.coming == nil && s.id != 2 || s.going == nil && s.id != 3 {
			t.Fatalf("%d has not its boxes", s.id)
		}
	}
}

// TestKeptDatagrams is promise 13.5: datagrams that were sent, pulled, dropped or can't be sent any more are not kept.
func TestKeptDatagrams(t *testing.T) {
	a, b := openPair(t)
	for range 40 {
		a.Push("d")
	}
	if len(a.waits) != 32 {
		t.Fatalf("%d wait", len(a.waits))
	}
	p, _ := a.Send(0, 1200)
	if len(a.waits) != 0 {
		t.Fatalf("%d wait", len(a.waits))
	}
	b.Recv(0, p)
	a.Push("d")
	p, _ = a.Send(0, 1200)
	b.Recv(0, p)
	if len(b.arrived) != 32 {
		t.Fatalf("%d came", len(b.arrived))
	}
	for range 33 {
		b.Pull()
	}
	if len(b.arrived) != 0 {
		t.Fatalf("%d are kept", len(b.arrived))
	}
	a.Push("d")
	a.Close(0)
	if len(a.waits) != 0 {
		t.Fatal("what can't be sent any more is kept")
	}
}

// TestMargin is promise 13.3: 20 bytes are always enough for what a piece has beside its bytes.
func TestMargin(t *testing.T) {
	for _, off := range []int64{0, 63, 64, 1 << 14, 1 << 30, api.MaxVarint - 1151} {
		for _, n := range []int{0, 1, 63, 64, 1151} {
			f := api.Frame{Kind: api.FStream, Id: 28, Off: off, Data: string(make([]byte, n)), Fin: true}
			if size := frames.Size(f); size == 0 || size > n+pieceMargin {
				t.Fatalf("%d bytes at %d are written in %d", n, off, size)
			}
		}
	}
}
