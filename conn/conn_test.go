package conn_test

import (
	"math"
	"slices"
	"strconv"
	"strings"
	"testing"

	"vizard/api"
	"vizard/conn"
	"vizard/frames"
)

const (
	psk    = "key"
	name   = "connect0"
	theirs = "1234567890123456" // the client's nonce
	nonce  = "abcdefghijklmnop" // the server's
	most   = 1<<62 - 1
)

// manyIds is ids of streams, and ids that are none.
var manyIds = []int64{math.MinInt64, -4, -1, 0, 1, 2, 3, 4, 5, 6, 7, 8, 12, 16, 20, 24, 28, 29, 30, 31, 32, 36, 64, 1 << 32, most, math.MaxInt64}

var manyNumbers = []int{math.MinInt, math.MinInt + 1, -1201, -1200, -128, -1, 0, 1, 2, 29, 45, 126, 127, 1201, 1202, 1 << 16, 1 << 32, math.MaxInt - 1, math.MaxInt}

// both is an end beside its plain one; every step is held against it. The other end is played by the test.
type both struct {
	t   *testing.T
	c   *conn.Conn
	p   *plain
	far uint32 // the number of the other end's next packet
}

// dialed is a client that has sent nothing.
func dialed(t *testing.T) *both {
	t.Helper()
	c, e := conn.Dial(psk, name, theirs)
	if c == nil || e != api.OK {
		t.Fatalf("Dial is %d", e)
	}
	b := &both{t: t, c: c, p: newPlain(false, psk, name, theirs, "")}
	b.same("Dial")
	return b
}

// accepted is a server that has sent nothing.
func accepted(t *testing.T) *both {
	t.Helper()
	c, e := conn.Accept(psk, name, theirs, nonce)
	if c == nil || e != api.OK {
		t.Fatalf("Accept is %d", e)
	}
	b := &both{t: t, c: c, p: newPlain(true, psk, name, theirs, nonce)}
	b.same("Accept")
	return b
}

// opened is an end in phase 2, of which the handshake is over.
func opened(t *testing.T, server bool) *both {
	t.Helper()
	if server {
		b := accepted(t)
		b.wantPacket(0, 128, welcomeOf(nonce))
		return b
	}
	b := dialed(t)
	b.wantPacket(0, 128, helloOf(theirs))
	b.wantRecv(welcomeOf(nonce), api.OK)
	return b
}

// eachEnd does something with an open client, and with an open server.
func eachEnd(t *testing.T, do func(b *both)) {
	t.Helper()
	for _, server := range []bool{false, true} {
		do(opened(t, server))
	}
}

func helloOf(nonce string) string {
	return packetOf(keysOf(psk, "", "").hello, 1, name, 0, nonce)
}

func welcomeOf(data string) string {
	return packetOf(keysOf(psk, theirs, "").welcome, 2, name, 0, data)
}

// dataPacket is a packet of data that the other end sends.
func (b *both) dataPacket(n uint32, data string) string {
	k := keysOf(psk, theirs, nonce)
	if b.p.server {
		return packetOf(k.up, 3, name, n, data)
	}
	return packetOf(k.down, 3, name, n, data)
}

// same asks the end for all that it tells, and twice, for asking changes nothing.
func (b *both) same(step string) {
	b.t.Helper()
	for range 2 {
		phase, code := b.c.State()
		if phase != b.p.phase || code != b.p.code {
			b.t.Fatalf("%s: State is %d, %d, want %d, %d", step, phase, code, b.p.phase, b.p.code)
		}
		ids := b.c.Streams()
		if !slices.Equal(ids, b.p.streams()) {
			b.t.Fatalf("%s: Streams is %v, want %v", step, ids, b.p.streams())
		}
		for i := range ids {
			ids[i] = -1 // it is new memory
		}
		for _, id := range manyIds {
			how, n := b.c.How(id)
			wantHow, wantN := b.p.how(id)
			if how != wantHow || n != wantN {
				b.t.Fatalf("%s: How(%d) is %d, %d, want %d, %d", step, id, how, n, wantHow, wantN)
			}
			if all := b.c.Sent(id); all != b.p.allSent(id) {
				b.t.Fatalf("%s: Sent(%d) is %v", step, id, all)
			}
		}
	}
}

func (b *both) recv(packet string) api.Errno {
	b.t.Helper()
	e, want := b.c.Recv(0, packet), b.p.recv(packet)
	if e != want {
		b.t.Fatalf("Recv of %s is %d, want %d", short(packet), e, want)
	}
	b.same("Recv")
	return e
}

func (b *both) send(now int64, size int) (string, bool) {
	b.t.Helper()
	s, ok := b.c.Send(now, size)
	want, wantOk := b.p.send(now, size)
	if ok != wantOk || s != want {
		b.t.Fatalf("Send(%d, %d) is %s, %v, want %s, %v", now, size, b.told(s), ok, b.told(want), wantOk)
	}
	b.same("Send")
	return s, ok
}

func (b *both) write(id int64, s string, fin bool) api.Errno {
	b.t.Helper()
	e, want := b.c.Write(id, s, fin), b.p.write(id, s, fin)
	if e != want {
		b.t.Fatalf("Write(%d, %s, %v) is %d, want %d", id, short(s), fin, e, want)
	}
	b.same("Write")
	return e
}

func (b *both) read(id int64, n int) string {
	b.t.Helper()
	s, want := b.c.Read(id, n), b.p.read(id, n)
	if s != want {
		b.t.Fatalf("Read(%d, %d) is %s, want %s", id, n, short(s), short(want))
	}
	b.same("Read")
	return s
}

func (b *both) reset(id, code int64) api.Errno {
	b.t.Helper()
	e, want := b.c.Reset(id, code), b.p.reset(id, code)
	if e != want {
		b.t.Fatalf("Reset(%d, %d) is %d, want %d", id, code, e, want)
	}
	b.same("Reset")
	return e
}

func (b *both) push(s string) api.Errno {
	b.t.Helper()
	e, want := b.c.Push(s), b.p.push(s)
	if e != want {
		b.t.Fatalf("Push(%s) is %d, want %d", short(s), e, want)
	}
	b.same("Push")
	return e
}

func (b *both) pull() (string, bool) {
	b.t.Helper()
	s, ok := b.c.Pull()
	want, wantOk := b.p.pull()
	if s != want || ok != wantOk {
		b.t.Fatalf("Pull is %s, %v, want %s, %v", short(s), ok, short(want), wantOk)
	}
	b.same("Pull")
	return s, ok
}

func (b *both) close(code int64) {
	b.t.Helper()
	b.c.Close(code)
	b.p.close(code)
	b.same("Close")
}

// What follows says, beside what the plain end says, what must come of a step.

func (b *both) wantRecv(packet string, want api.Errno) {
	b.t.Helper()
	if e := b.recv(packet); e != want {
		b.t.Fatalf("Recv of %s is %d, want %d", short(packet), e, want)
	}
}

func (b *both) wantPacket(now int64, size int, want string) {
	b.t.Helper()
	s, ok := b.send(now, size)
	if s != want || !ok {
		b.t.Fatalf("Send(%d, %d) is %s, %v, want %s", now, size, b.told(s), ok, b.told(want))
	}
}

// wantSend is for a packet of data with these frames and no others.
func (b *both) wantSend(now int64, size int, l ...api.Frame) string {
	b.t.Helper()
	want := packetOf(b.p.mine(), 3, name, uint32(b.p.number), padded(l, size))
	b.wantPacket(now, size, want)
	return want
}

func (b *both) wantNothing(now int64, size int) {
	b.t.Helper()
	if s, ok := b.send(now, size); s != "" || ok {
		b.t.Fatalf("Send(%d, %d) is %s, %v, want none", now, size, b.told(s), ok)
	}
}

// feed takes a packet of the other end's with these frames.
func (b *both) feed(l ...api.Frame) {
	b.t.Helper()
	s, e := frames.Write(l)
	if e != api.OK {
		b.t.Fatalf("the frames %v are not right", l)
	}
	b.wantRecv(b.dataPacket(b.far, s), api.OK)
	b.far++
}

// fault takes a packet with frames that close the end.
func (b *both) fault(want api.Errno, code int64, l ...api.Frame) {
	b.t.Helper()
	s, e := frames.Write(l)
	if e != api.OK {
		b.t.Fatalf("the frames %v are not right", l)
	}
	b.wantRecv(b.dataPacket(b.far, s), want)
	b.far++
	b.wantState(3, code)
	b.wantGoodbye(code)
}

func (b *both) wantState(phase int, code int64) {
	b.t.Helper()
	if p, c := b.c.State(); p != phase || c != code {
		b.t.Fatalf("State is %d, %d, want %d, %d", p, c, phase, code)
	}
}

// wantGoodbye is for an FClose, and nothing behind it.
func (b *both) wantGoodbye(code int64) {
	b.t.Helper()
	b.wantSend(0, 128, api.Frame{Kind: api.FClose, Code: code})
	b.wantNothing(0, 128)
	b.wantNothing(1<<40, 1200)
}

func (b *both) wantWrite(id int64, s string, fin bool, want api.Errno) {
	b.t.Helper()
	if e := b.write(id, s, fin); e != want {
		b.t.Fatalf("Write(%d, %s, %v) is %d, want %d", id, short(s), fin, e, want)
	}
}

func (b *both) wantRead(id int64, n int, want string) {
	b.t.Helper()
	if s := b.read(id, n); s != want {
		b.t.Fatalf("Read(%d, %d) is %s, want %s", id, n, short(s), short(want))
	}
}

func (b *both) wantReset(id, code int64, want api.Errno) {
	b.t.Helper()
	if e := b.reset(id, code); e != want {
		b.t.Fatalf("Reset(%d, %d) is %d, want %d", id, code, e, want)
	}
}

func (b *both) wantPush(s string, want api.Errno) {
	b.t.Helper()
	if e := b.push(s); e != want {
		b.t.Fatalf("Push(%s) is %d, want %d", short(s), e, want)
	}
}

func (b *both) wantPull(want string, wantOk bool) {
	b.t.Helper()
	if s, ok := b.pull(); s != want || ok != wantOk {
		b.t.Fatalf("Pull is %s, %v, want %s, %v", short(s), ok, short(want), wantOk)
	}
}

func (b *both) wantHow(id int64, how int, read int64) {
	b.t.Helper()
	if h, n := b.c.How(id); h != how || n != read {
		b.t.Fatalf("How(%d) is %d, %d, want %d, %d", id, h, n, how, read)
	}
}

func (b *both) wantStreams(want ...int64) {
	b.t.Helper()
	if ids := b.c.Streams(); !slices.Equal(ids, want) {
		b.t.Fatalf("Streams is %v, want %v", ids, want)
	}
}

func (b *both) wantSent(id int64, want bool) {
	b.t.Helper()
	if all := b.c.Sent(id); all != want {
		b.t.Fatalf("Sent(%d) is %v", id, all)
	}
}

// Frames, as tests write them.

var ping = api.Frame{Kind: api.FPing}

func ack(low, high int64) api.Frame {
	return ackRanges(api.Range{Low: low, High: high})
}

func ackRanges(r ...api.Range) api.Frame {
	return api.Frame{Kind: api.FAck, Ranges: r}
}

func piece(id, off int64, data string, fin bool) api.Frame {
	return api.Frame{Kind: api.FStream, Id: id, Off: off, Data: data, Fin: fin}
}

func resets(id, code, off int64) api.Frame {
	return api.Frame{Kind: api.FReset, Id: id, Code: code, Off: off}
}

func limit(id, off int64) api.Frame {
	return api.Frame{Kind: api.FLimit, Id: id, Off: off}
}

func dgram(s string) api.Frame {
	return api.Frame{Kind: api.FDgram, Data: s}
}

func closes(code int64) api.Frame {
	return api.Frame{Kind: api.FClose, Code: code}
}

// short is a text as it may be told.
func short(s string) string {
	if len(s) <= 32 {
		return strconv.Quote(s)
	}
	return strconv.Quote(s[:32]) + ".. of " + strconv.Itoa(len(s))
}

// told is a packet of this end's as it may be told.
func (b *both) told(packet string) string {
	if len(packet) < 29 || packet[0] != 3 {
		return short(packet)
	}
	data, ok := dataOf(b.p.mine(), packet)
	if !ok {
		return "with a wrong tag: " + short(packet)
	}
	l, e := frames.Parse(data)
	if e != api.OK {
		return "no frames: " + short(data)
	}
	var out strings.Builder
	out.WriteString(strconv.Itoa(len(packet)) + " bytes, number " + strconv.Quote(packet[9:13]))
	for _, f := range l {
		out.WriteString("; kind " + strconv.Itoa(f.Kind) + " id " + strconv.FormatInt(f.Id, 10) + " off " + strconv.FormatInt(f.Off, 10) + " code " + strconv.FormatInt(f.Code, 10) + " fin " + strconv.FormatBool(f.Fin) + " " + short(f.Data))
		for _, r := range f.Ranges {
			out.WriteString(" " + strconv.FormatInt(r.Low, 10) + "-" + strconv.FormatInt(r.High, 10))
		}
	}
	return out.String()
}

// text is bytes of which each hangs on its place: a beginning of it is a beginning of every longer one.
func text(n int) string {
	b := make([]byte, n)
	for i := range b {
		b[i] = byte(i*7 + i>>8*13 + 1)
	}
	return string(b)
}

// TestExample is promises 13.1 to 13.4 and 13.6 at the chapter's example, between two ends.
func TestExample(t *testing.T) {
	a := dialed(t)
	hello, ok := a.send(0, 128)
	if len(hello) != 45 || !ok {
		t.Fatalf("the hello is %s, %v", short(hello), ok)
	}
	cid, n, e := conn.Hello(psk, hello)
	if cid != name || n != theirs || e != api.OK {
		t.Fatalf("Hello is %q, %q, %d", cid, n, e)
	}
	b := accepted(t)
	welcome, ok := b.send(0, 128)
	if len(welcome) != 45 || !ok {
		t.Fatalf("the welcome is %s, %v", short(welcome), ok)
	}
	a.wantState(1, 0)
	a.wantRecv(welcome, api.OK)
	a.wantState(2, 0)
	a.wantWrite(0, "hi", true, api.OK)
	p := a.wantSend(0, 128, piece(0, 0, "hi", true))
	if len(p) != 128 {
		t.Fatalf("%d bytes", len(p))
	}
	b.wantRecv(p, api.OK)
	b.wantRead(0, 9, "hi")
	b.wantHow(0, 1, 2)
	b.wantStreams(0)
	b.wantRecv(p, api.ErrOld)
	a.wantSent(0, false)
	a.wantRecv(b.wantSend(0, 128, ack(0, 0)), api.OK)
	a.wantSent(0, true)
	a.wantNothing(100, 1200)
	b.wantNothing(100, 1200)
}
