package tenant

import (
	"vizard/api"
	"vizard/capsule"
	"vizard/conn"
	"vizard/h3"
	"vizard/sha"
	"vizard/varint"
)

// phaseOpen is where a connection stands on which something may be done.
const phaseOpen = 2

// The streams on which each end tells its settings.
const (
	clientTells = 2
	proxyTells  = 3
)

// How a stream that is read has ended.
const (
	wasRead  = 1
	wasReset = 2
)

// What the proxy can, by the numbers that settings have.
const (
	extendedConnect = 0x08
	datagrams       = 0x33
)

// codeControl closes a connection whose control stream is over, for that must last as long as it does.
const codeControl = 0x104

const drawSize = 16

// accept makes another connection the tenant's.
func (m *Machine) accept(name, nonce string) {
	m.forget()
	m.conn, _ = conn.Accept(m.psk, name, nonce, m.draw()) // a hello has a name and a nonce that are right
	m.name = name
	m.control = h3.New(true)
	m.conn.Write(proxyTells, "\x00"+h3.Frame(h3.Settings, settings()), false)
}

func settings() string {
	return varint.Put(extendedConnect) + varint.Put(1) + varint.Put(datagrams) + varint.Put(1)
}

// draw is the next of the tenant's draws.
func (m *Machine) draw() string {
	key := sha.Derive(eightBytes(m.seed), "draw", eightBytes(m.drawn))
	m.drawn++
	return key[:drawSize]
}

// eightBytes is a number in eight bytes, the highest first.
func eightBytes(n uint64) string {
	var out [8]byte
	for i := range out {
		out[len(out)-1-i] = byte(n >> (8 * i))
	}
	return string(out[:])
}

// forget closes all tunnels, and lets go of all requests.
func (m *Machine) forget() {
	for _, r := range m.open() {
		m.closeTunnel(r)
	}
	clear(m.requests)
}

// pump does what came on the connection, as long as that is open.
func (m *Machine) pump() {
	if m.isOpen() {
		m.readControl()
	}
	if m.isOpen() {
		m.serveRequests()
	}
	m.takeDatagrams()
	if !m.isOpen() {
		m.forget()
	}
}

func (m *Machine) isOpen() bool {
	phase, _ := m.conn.State()
	return phase == phaseOpen
}

// read is all bytes of a stream that can be read: a connection keeps no more of them.
func (m *Machine) read(stream int64) string {
	return m.conn.Read(stream, api.Buffer)
}

func (m *Machine) readControl() {
	// What a client can, and that it goes away, changes nothing here.
	_, code := m.control.Feed(m.read(clientTells))
	if how, _ := m.conn.How(clientTells); code == 0 && how != 0 {
		code = codeControl
	}
	if code != 0 {
		m.conn.Close(code)
	}
}

func (m *Machine) serveRequests() {
	for _, stream := range m.conn.Streams() {
		if stream != clientTells && m.requests[stream] == nil {
			m.requests[stream] = newRequest(stream)
		}
	}
	for _, stream := range m.streams() {
		if r := m.requests[stream]; m.isOpen() && !r.done {
			m.serve(r)
		}
	}
}

// serve does what came on a request's stream.
func (m *Machine) serve(r *request) {
	events, code := r.reader.Feed(m.read(r.stream))
	for _, e := range events {
		m.take(r, e)
		if r.done {
			return
		}
	}
	if code != 0 {
		m.conn.Close(code)
		return
	}
	switch how, _ := m.conn.How(r.stream); how {
	case wasRead:
		m.end(r)
	case wasReset:
		m.finish(r)
	}
}

// end ends a request whose stream is over.
func (m *Machine) end(r *request) {
	if code := r.reader.End(); code != 0 {
		m.conn.Close(code)
		return
	}
	if r.tunnel != nil {
		m.conn.Write(r.stream, "", true)
	}
	m.finish(r)
}

func (m *Machine) takeDatagrams() {
	for m.isOpen() {
		s, ok := m.conn.Pull()
		if !ok {
			return
		}
		m.takeDatagram(s)
	}
}

func (m *Machine) takeDatagram(s string) {
	stream, context, data, e := capsule.Open(s)
	if e != api.OK {
		m.conn.Close(api.CodeDgram)
		return
	}
	r := m.requests[stream]
	if context != payloadContext || r == nil || r.tunnel == nil {
		m.dropped++
		return
	}
	m.up(r, data)
}
