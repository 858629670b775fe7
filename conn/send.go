package conn

import (
	"slices"
	"strings"

	"vizard/api"
	"vizard/frames"
)

const (
	leastSize   = 128 // bytes of a packet that is asked for
	helloWait   = 8   // ticks from one hello to the next
	pieceMargin = 20  // bytes that are kept free for what a piece has beside its bytes
)

// Send is the next packet, if there is one.
func (c *Conn) Send(now int64, size int) (string, bool) {
	switch {
	case size < leastSize || size > api.MaxPacket:
		return "", false
	case c.phase == waiting:
		return c.sendHello(now)
	case c.phase == open && c.owesWelcome:
		c.owesWelcome = false
		return c.greeting, true
	case c.owesClose:
		c.owesClose = false
		l := newLoad(size)
		l.add(api.Frame{Kind: api.FClose, Code: c.code})
		return c.sealData(l), true
	case c.phase == closed:
		return "", false
	}
	return c.sendData(now, size)
}

func (c *Conn) sendHello(now int64) (string, bool) {
	if c.greeted && !waited(c.greetedAt, now) {
		return "", false
	}
	c.greeted, c.greetedAt = true, now
	return c.greeting, true
}

// waited tells whether the wait for a hello is over: without a sign, as ticks may lie further apart than the greatest tick.
func waited(last, now int64) bool {
	return now >= last && uint64(now)-uint64(last) >= helloWait
}

func (c *Conn) sendData(now int64, size int) (string, bool) {
	c.lose(c.ledger.Expire(now))
	l := c.gather(size)
	if len(l.frames) == 0 {
		return "", false
	}
	if slices.ContainsFunc(l.frames, frames.Elicits) {
		c.ledger.Sent(c.next, now, size)
		c.sent[c.next] = slices.DeleteFunc(slices.Clone(l.frames), sentOnce)
	}
	return c.sealData(l), true
}

// sentOnce tells whether a frame is not sent again when it is lost.
func sentOnce(f api.Frame) bool {
	return f.Kind != api.FStream && f.Kind != api.FLimit && f.Kind != api.FReset
}

// sealData is a packet of data with the next number.
func (c *Conn) sealData(l *load) string {
	data, _ := frames.Write(l.frames)
	pad := strings.Repeat("\x00", l.room) // so is FPad written
	packet := sealPacket(c.ours, kindData, c.name, c.next, data+pad)
	c.next++
	return packet
}

// load is the frames of a packet that is put together.
type load struct {
	frames []api.Frame
	room   int // bytes that are left
}

func newLoad(size int) *load {
	return &load{room: size - leastPacket}
}

// add puts a frame behind the others, if it fits.
func (l *load) add(f api.Frame) bool {
	size := frames.Size(f)
	if size > l.room {
		return false
	}
	l.frames = append(l.frames, f)
	l.room -= size
	return true
}

// gather is all that has to be sent now, and fits.
func (c *Conn) gather(size int) *load {
	l := newLoad(size)
	if c.owesAck && l.add(api.Frame{Kind: api.FAck, Ranges: c.came.Ranges()}) {
		c.owesAck = false
	}
	c.addLimits(l)
	c.addResets(l)
	if _, flight := c.ledger.Flight(); flight+size <= c.ledger.Window() {
		c.addPieces(l)
		c.addDatagrams(l)
	}
	return l
}

func (c *Conn) addLimits(l *load) {
	for _, s := range c.streams {
		if s.coming != nil && s.untold() && l.add(api.Frame{Kind: api.FLimit, Id: s.id, Off: s.limit()}) {
			s.tell()
		}
	}
}

func (c *Conn) addResets(l *load) {
	for _, s := range c.streams {
		if s.going != nil && s.due && l.add(api.Frame{Kind: api.FReset, Id: s.id, Code: s.code, Off: s.sent}) {
			s.due = false
		}
	}
}

func (c *Conn) addPieces(l *load) {
	for _, s := range c.streams {
		for s.going != nil && l.room > pieceMargin {
			p, ok := s.next(l.room - pieceMargin)
			if !ok {
				break
			}
			l.add(api.Frame{Kind: api.FStream, Id: s.id, Off: p.Off, Data: p.Data, Fin: p.Fin})
		}
	}
}

func (c *Conn) addDatagrams(l *load) {
	for len(c.waits) > 0 && l.add(api.Frame{Kind: api.FDgram, Data: c.waits[0]}) {
		c.waits = slices.Delete(c.waits, 0, 1)
	}
}
