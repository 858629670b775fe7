package tenant

import (
	"maps"
	"slices"
	"strconv"

	"vizard/api"
	"vizard/capsule"
	"vizard/fields"
	"vizard/h3"
	"vizard/policy"
	"vizard/target"
	"vizard/tunnel"
	"vizard/varint"
)

// What a request is answered, beside what target.Parse says.
const (
	granted    = 200
	badRequest = 400
	forbidden  = 403
	tooMany    = 429
)

// firstPort is the port of the tunnel at the first place.
const firstPort = 40000

// payloadContext is the context of what goes through a tunnel; of others nothing is known here.
const payloadContext = 0

// request is what is remembered of a request.
type request struct {
	stream   int64
	reader   *h3.Reader
	capsules *capsule.Reader
	tunnel   *tunnel.Tunnel // nil: it has none
	done     bool
}

func newRequest(stream int64) *request {
	return &request{stream: stream, reader: h3.New(false), capsules: capsule.New()}
}

// streams is the streams of all requests, rising.
func (m *Machine) streams() []int64 {
	return slices.Sorted(maps.Keys(m.requests))
}

// open is the requests that have a tunnel, in the order of their streams.
func (m *Machine) open() []*request {
	var l []*request
	for _, stream := range m.streams() {
		if r := m.requests[stream]; r.tunnel != nil {
			l = append(l, r)
		}
	}
	return l
}

// find is the request whose tunnel is the one that is looked for; nil, if there is none.
func (m *Machine) find(is func(t tunnel.Tunnel) bool) *request {
	for _, r := range m.open() {
		if is(*r.tunnel) {
			return r
		}
	}
	return nil
}

// closeTunnel takes a request's tunnel away, if it has one, and drops what waits in its queue.
func (m *Machine) closeTunnel(r *request) {
	m.dropped += m.queues.Drop(r.stream)
	r.tunnel = nil
}

// finish makes a request done. Its stream is read no more.
func (m *Machine) finish(r *request) {
	m.closeTunnel(r)
	r.reader, r.capsules = nil, nil
	r.done = true
}

// take takes an event of a request's stream.
func (m *Machine) take(r *request, e h3.Event) {
	switch e.Kind {
	case h3.Headers:
		m.takeHeaders(r, e.Data)
	case h3.Data:
		if r.tunnel != nil {
			m.takeData(r, e.Data)
		}
	}
}

func (m *Machine) takeHeaders(r *request, section string) {
	t, status := m.grant(section)
	m.answer(r.stream, status)
	if status != granted {
		return
	}
	r.tunnel = &t
	if t.Target.Ip {
		m.tellWays(r)
	}
}

// grant is the tunnel that is asked for, and 200; else the status of a request that gets none.
func (m *Machine) grant(section string) (tunnel.Tunnel, int) {
	l, e := fields.Read(section)
	if e != api.OK {
		return tunnel.Tunnel{}, badRequest
	}
	goal, status := target.Parse(l)
	if status != granted {
		return tunnel.Tunnel{}, status
	}
	t := tunnel.Tunnel{Target: goal, Rules: m.rules}
	if t.Open() != api.OK {
		return tunnel.Tunnel{}, forbidden
	}
	place, free := m.freePlace()
	if !free {
		return tunnel.Tunnel{}, tooMany
	}
	t.Port = firstPort + place
	t.Own = m.pool + uint32(place)
	return t, granted
}

// freePlace is the least place at which there is no tunnel. Each tunnel got the least one, so that as many as may be open stand at the first places, and one is free as long as one more may be.
func (m *Machine) freePlace() (int, bool) {
	for place := range m.quota {
		port := firstPort + place
		if m.find(func(t tunnel.Tunnel) bool { return t.Port == port }) == nil {
			return place, true
		}
	}
	return 0, false
}

// answer tells a request's status; where that is a no, nothing follows.
func (m *Machine) answer(stream int64, status int) {
	section, _ := fields.Write([]api.Field{{Name: ":status", Value: strconv.Itoa(status)}})
	m.conn.Write(stream, h3.Frame(h3.Headers, section), status != granted)
}

// tellWays tells whose packets go through a tunnel, and where to.
func (m *Machine) tellWays(r *request) {
	own := api.Prefix{Addr: r.tunnel.Own, Bits: 32}
	assigns := capsule.Assigns([]capsule.Address{{Prefix: own}})
	routes, _ := capsule.Tells(policy.Routes(m.rules)) // these are right
	told := capsule.Write(capsule.Capsule{Kind: capsule.Assign, Data: assigns}) +
		capsule.Write(capsule.Capsule{Kind: capsule.Routes, Data: routes})
	m.conn.Write(r.stream, h3.Frame(h3.Data, told), false)
}

// takeData takes bytes of a request that has a tunnel.
func (m *Machine) takeData(r *request, s string) {
	l, e := r.capsules.Feed(s)
	for _, c := range l {
		if c.Kind == capsule.Datagram {
			m.takeCapsule(r, c.Data)
		}
	}
	if e != api.OK {
		m.conn.Reset(r.stream, api.CodeMessage)
		m.finish(r)
	}
}

func (m *Machine) takeCapsule(r *request, s string) {
	context, size, e := varint.Get(s)
	if e != api.OK || context != payloadContext {
		m.dropped++
		return
	}
	m.up(r, s[size:])
}

// up lets something wait to go out of a tunnel.
func (m *Machine) up(r *request, s string) {
	out, e := r.tunnel.Up(s)
	// What the bucket gave is gone, even if the queue is full.
	if e != api.OK || !m.bucket.Take(len(out.Data)) || m.queues.Push(r.stream, tunnel.Pack(out)) != api.OK {
		m.dropped++
	}
}

// down lets what came from a target wait to go to the tenant.
func (m *Machine) down(r *request, src uint32, from int, s string) {
	if r == nil {
		m.dropped++
		return
	}
	data, e := r.tunnel.Down(src, from, s)
	if e == api.OK {
		gram, _ := capsule.Gram(r.stream, payloadContext, data) // a request's stream is right
		e = m.conn.Push(gram)
	}
	if e != api.OK {
		m.dropped++
	}
}
