package conn_test

import (
	"crypto/hmac"
	"crypto/sha256"
	"encoding/binary"
	"slices"
	"strings"

	"vizard/acks"
	"vizard/api"
	"vizard/frames"
	"vizard/inbox"
	"vizard/ledger"
	"vizard/outbox"
	"vizard/replay"
)

// What stands in this file is a second connection, read off the chapter: it seals by the library's own HMAC, and keeps
// everything in maps by the streams' ids.

func hmacOf(key, s string) string {
	h := hmac.New(sha256.New, []byte(key))
	h.Write([]byte(s))
	return string(h.Sum(nil))
}

// counted is a text of fewer than 64 bytes with its count in front.
func counted(s string) string {
	return string([]byte{byte(len(s))}) + s
}

func derive(key, label, context string) string {
	return hmacOf(key, counted(label)+counted(context))
}

func eight(n uint64) string {
	return string(binary.BigEndian.AppendUint64(nil, n))
}

func four(n uint32) string {
	return string(binary.BigEndian.AppendUint32(nil, n))
}

// turned is data, each byte turned by a number's stream.
func turned(secret string, n uint32, data string) string {
	part := derive(secret, "cipher", "")
	out := []byte(data)
	for i := 0; i < len(out); i += 32 {
		row := hmacOf(part, eight(uint64(n))+four(uint32(i/32)))
		for j := i; j < min(i+32, len(out)); j++ {
			out[j] ^= row[j-i]
		}
	}
	return string(out)
}

func tagOf(secret string, n uint32, head, hidden string) string {
	return hmacOf(derive(secret, "tag", ""), eight(uint64(n))+counted(head)+hidden)[:16]
}

// packetOf is a packet of any kind.
func packetOf(secret string, kind byte, name string, n uint32, data string) string {
	head := string([]byte{kind}) + name + four(n)
	hidden := turned(secret, n, data)
	return head + hidden + tagOf(secret, n, head, hidden)
}

// dataOf is what a packet has, if its tag is right.
func dataOf(secret, packet string) (string, bool) {
	head, hidden, tag := packet[:13], packet[13:len(packet)-16], packet[len(packet)-16:]
	n := binary.BigEndian.Uint32([]byte(head[9:]))
	if tag != tagOf(secret, n, head, hidden) {
		return "", false
	}
	return turned(secret, n, hidden), true
}

// padded is frames' bytes with FPad behind them, so that the packet has size bytes.
func padded(l []api.Frame, size int) string {
	s, e := frames.Write(l)
	if e != api.OK {
		panic(e)
	}
	return s + strings.Repeat("\x00", size-29-len(s))
}

// keys are those that both ends make of what they know.
type keys struct{ hello, welcome, up, down string }

func keysOf(psk, theirs, nonce string) keys {
	return keys{
		hello:   derive(psk, "hello", ""),
		welcome: derive(psk, "welcome", theirs),
		up:      derive(psk, "up", theirs+nonce),
		down:    derive(psk, "down", theirs+nonce),
	}
}

// mayWrite tells whether an end may write a stream; the other end may read it just then.
func mayWrite(server bool, id int64) bool {
	switch id {
	case 0, 4, 8, 12, 16, 20, 24, 28:
		return true
	case 2:
		return !server
	case 3:
		return server
	}
	return false
}

func mayRead(server bool, id int64) bool {
	return mayWrite(!server, id)
}

// allStreams is the streams, rising.
var allStreams = []int64{0, 2, 3, 4, 8, 12, 16, 20, 24, 28}

// plain is an end of a connection.
type plain struct {
	server                bool
	psk, name             string
	theirs, nonce         string // the client's nonce and the server's
	phase                 int
	code                  int64
	hellos                []int64 // the ticks
	welcome, ack, goodbye bool    // what has to be sent
	number                int64
	seen                  *replay.Window
	came                  *acks.Set
	ledger                *ledger.Ledger
	in                    map[int64]*inbox.Box
	out                   map[int64]*outbox.Box
	told                  map[int64]int64
	toldLost              map[int64]bool
	touched               map[int64]bool
	furthest              map[int64]int64
	resets                map[int64]api.Frame
	resetDue              map[int64]bool
	flying                map[int64][]api.Frame
	waits, arrived        []string
}

func newPlain(server bool, psk, name, theirs, nonce string) *plain {
	p := &plain{
		server: server, psk: psk, name: name, theirs: theirs, nonce: nonce, phase: 1,
		seen: replay.New(), came: acks.New(), ledger: ledger.New(),
		in: map[int64]*inbox.Box{}, out: map[int64]*outbox.Box{},
		told: map[int64]int64{}, toldLost: map[int64]bool{}, touched: map[int64]bool{},
		furthest: map[int64]int64{}, resets: map[int64]api.Frame{}, resetDue: map[int64]bool{},
		flying: map[int64][]api.Frame{},
	}
	if server {
		p.phase, p.welcome = 2, true
	}
	for _, id := range allStreams {
		if mayRead(server, id) {
			p.in[id], p.told[id] = inbox.New(), 4096
		}
		if mayWrite(server, id) {
			p.out[id] = outbox.New()
		}
	}
	return p
}

// mine and other are the keys of data that the end sends, and that it takes.
func (p *plain) mine() string {
	k := keysOf(p.psk, p.theirs, p.nonce)
	if p.server {
		return k.down
	}
	return k.up
}

func (p *plain) other() string {
	k := keysOf(p.psk, p.theirs, p.nonce)
	if p.server {
		return k.up
	}
	return k.down
}

func (p *plain) recv(packet string) api.Errno {
	if p.phase == 3 {
		return api.ErrClosed
	}
	if len(packet) < 29 {
		return api.ErrShort
	}
	if packet[1:9] != p.name {
		return api.ErrField
	}
	n := binary.BigEndian.Uint32([]byte(packet[9:13]))
	k := keysOf(p.psk, p.theirs, p.nonce)
	switch packet[0] {
	case 1:
		if !p.server {
			return api.ErrState
		}
		data, ok := dataOf(k.hello, packet)
		switch {
		case !ok:
			return api.ErrTag
		case len(data) != 16 || n != 0:
			return api.ErrField
		case data != p.theirs:
			return api.ErrOld
		}
		p.welcome = true
	case 2:
		if p.server {
			return api.ErrState
		}
		if p.phase == 2 {
			return api.ErrOld
		}
		data, ok := dataOf(k.welcome, packet)
		switch {
		case !ok:
			return api.ErrTag
		case len(data) != 16 || n != 0:
			return api.ErrField
		}
		p.phase, p.nonce = 2, data
	case 3:
		return p.recvData(int64(n), packet)
	default:
		return api.ErrKind
	}
	return api.OK
}

func (p *plain) recvData(n int64, packet string) api.Errno {
	if p.phase == 1 {
		return api.ErrState
	}
	if e := p.seen.Check(n); e != api.OK {
		return e
	}
	data, ok := dataOf(p.other(), packet)
	if !ok {
		return api.ErrTag
	}
	p.seen.See(n)
	p.came.Add(n, n)
	l, e := frames.Parse(data)
	if e != api.OK {
		p.phase, p.code, p.goodbye = 3, 0x0a, true
		return e
	}
	for _, f := range l {
		if f.Kind == api.FClose {
			p.phase, p.code = 3, f.Code
			return api.OK
		}
		if e, code := p.take(f); e != api.OK {
			p.phase, p.code, p.goodbye = 3, code, true
			return e
		}
	}
	for _, f := range l {
		if frames.Elicits(f) {
			p.ack = true
		}
	}
	return api.OK
}

// take takes a frame: an error, and the code that it closes with.
func (p *plain) take(f api.Frame) (api.Errno, int64) {
	codes := map[api.Errno]int64{api.ErrFlow: 0x03, api.ErrFinal: 0x06, api.ErrRange: 0x0a}
	switch f.Kind {
	case api.FAck:
		told, lost, e := p.ledger.Acked(f.Ranges)
		if e != api.OK {
			return e, 0x0a
		}
		for _, n := range told {
			for _, g := range p.flying[n] {
				if g.Kind == api.FStream {
					p.out[g.Id].Acked(outbox.Piece{Off: g.Off, Data: g.Data, Fin: g.Fin})
				}
			}
		}
		p.lose(lost)
	case api.FReset, api.FStream:
		if !mayRead(p.server, f.Id) {
			return api.ErrRange, 0x0a
		}
		e := api.OK
		if f.Kind == api.FReset {
			e = p.in[f.Id].Reset(f.Off)
		} else {
			e = p.in[f.Id].Put(f.Off, f.Data, f.Fin)
		}
		if e != api.OK {
			return e, codes[e]
		}
		p.touched[f.Id] = true
	case api.FLimit:
		if !mayWrite(p.server, f.Id) {
			return api.ErrRange, 0x0a
		}
		p.out[f.Id].Allow(f.Off)
	case api.FDgram:
		if len(p.arrived) < 32 {
			p.arrived = append(p.arrived, f.Data)
		}
	}
	return api.OK, 0
}

func (p *plain) lose(lost []int64) {
	for _, n := range lost {
		for _, g := range p.flying[n] {
			switch g.Kind {
			case api.FStream:
				p.out[g.Id].Lost(outbox.Piece{Off: g.Off, Data: g.Data, Fin: g.Fin})
			case api.FLimit:
				p.toldLost[g.Id] = true
			case api.FReset:
				p.resetDue[g.Id] = true
			}
		}
	}
}

func (p *plain) send(now int64, size int) (string, bool) {
	if size < 128 || size > 1200 {
		return "", false
	}
	k := keysOf(p.psk, p.theirs, p.nonce)
	switch {
	case p.phase == 1:
		if i := len(p.hellos); i > 0 && (now < p.hellos[i-1] || uint64(now-p.hellos[i-1]) < 8) {
			return "", false
		}
		p.hellos = append(p.hellos, now)
		return packetOf(k.hello, 1, p.name, 0, p.theirs), true
	case p.phase == 2 && p.welcome:
		p.welcome = false
		return packetOf(k.welcome, 2, p.name, 0, p.nonce), true
	case p.goodbye:
		p.goodbye = false
		return p.data([]api.Frame{{Kind: api.FClose, Code: p.code}}, size), true
	case p.phase == 3:
		return "", false
	}
	p.lose(p.ledger.Expire(now))
	l := p.gather(size)
	if len(l) == 0 {
		return "", false
	}
	for _, f := range l {
		if frames.Elicits(f) {
			p.flying[p.number] = l
		}
	}
	if p.flying[p.number] != nil {
		p.ledger.Sent(p.number, now, size)
	}
	return p.data(l, size), true
}

func (p *plain) data(l []api.Frame, size int) string {
	s := packetOf(p.mine(), 3, p.name, uint32(p.number), padded(l, size))
	p.number++
	return s
}

// room is how many bytes of a packet frames leave.
func room(l []api.Frame, size int) int {
	s, _ := frames.Write(l)
	return size - 29 - len(s)
}

func (p *plain) gather(size int) []api.Frame {
	var l []api.Frame
	fits := func(f api.Frame) bool { return room(append(slices.Clone(l), f), size) >= 0 }
	if f := (api.Frame{Kind: api.FAck, Ranges: p.came.Ranges()}); p.ack && fits(f) {
		l, p.ack = append(l, f), false
	}
	for _, id := range allStreams {
		if p.in[id] == nil {
			continue
		}
		_, limit, _ := p.in[id].State()
		f := api.Frame{Kind: api.FLimit, Id: id, Off: limit}
		if (limit >= p.told[id]+2048 || p.toldLost[id]) && fits(f) {
			l, p.told[id], p.toldLost[id] = append(l, f), limit, false
		}
	}
	for _, id := range allStreams {
		if f := p.resets[id]; p.resetDue[id] && fits(f) {
			l, p.resetDue[id] = append(l, f), false
		}
	}
	if _, flight := p.ledger.Flight(); flight+size > p.ledger.Window() {
		return l
	}
	for _, id := range allStreams {
		if _, was := p.resets[id]; was || p.out[id] == nil {
			continue
		}
		for room(l, size)-20 >= 1 {
			q, ok := p.out[id].Next(room(l, size) - 20)
			if !ok {
				break
			}
			l = append(l, api.Frame{Kind: api.FStream, Id: id, Off: q.Off, Fin: q.Fin, Data: q.Data})
			p.furthest[id] = max(p.furthest[id], q.Off+int64(len(q.Data)))
		}
	}
	for len(p.waits) > 0 && fits(api.Frame{Kind: api.FDgram, Data: p.waits[0]}) {
		l = append(l, api.Frame{Kind: api.FDgram, Data: p.waits[0]})
		p.waits = p.waits[1:]
	}
	return l
}

func (p *plain) write(id int64, s string, fin bool) api.Errno {
	_, was := p.resets[id]
	switch {
	case p.phase == 3:
		return api.ErrClosed
	case !mayWrite(p.server, id):
		return api.ErrRange
	case was:
		return api.ErrState
	}
	return p.out[id].Write(s, fin)
}

func (p *plain) read(id int64, n int) string {
	if !mayRead(p.server, id) {
		return ""
	}
	return p.in[id].Read(n)
}

func (p *plain) reset(id, code int64) api.Errno {
	_, was := p.resets[id]
	switch {
	case p.phase == 3:
		return api.ErrClosed
	case !mayWrite(p.server, id) || code < 0 || code > 1<<62-1:
		return api.ErrRange
	case was:
		return api.ErrState
	}
	p.resets[id] = api.Frame{Kind: api.FReset, Id: id, Code: code, Off: p.furthest[id]}
	p.resetDue[id] = true
	return api.OK
}

func (p *plain) push(s string) api.Errno {
	switch {
	case p.phase == 3:
		return api.ErrClosed
	case len(s) > 1000:
		return api.ErrLong
	case len(p.waits) == 32:
		return api.ErrFull
	}
	p.waits = append(p.waits, s)
	return api.OK
}

func (p *plain) pull() (string, bool) {
	if len(p.arrived) == 0 {
		return "", false
	}
	s := p.arrived[0]
	p.arrived = p.arrived[1:]
	return s, true
}

func (p *plain) close(code int64) {
	if p.phase == 3 {
		return
	}
	if code < 0 || code > 1<<62-1 {
		code = 0
	}
	p.goodbye = p.phase == 2
	p.phase, p.code = 3, code
}

func (p *plain) streams() []int64 {
	var ids []int64
	for _, id := range allStreams {
		if p.touched[id] {
			ids = append(ids, id)
		}
	}
	return ids
}

func (p *plain) how(id int64) (int, int64) {
	if p.in[id] == nil {
		return 0, 0
	}
	read, _, how := p.in[id].State()
	return how, read
}

func (p *plain) allSent(id int64) bool {
	if p.out[id] == nil {
		return false
	}
	_, _, all := p.out[id].State()
	return all
}
