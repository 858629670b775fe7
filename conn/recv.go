package conn

import (
	"vizard/api"
	"vizard/frames"
	"vizard/outbox"
)

// Recv takes a packet.
func (c *Conn) Recv(now int64, packet string) api.Errno {
	switch {
	case c.phase == closed:
		return api.ErrClosed
	case len(packet) < leastPacket:
		return api.ErrShort
	case nameOf(packet) != c.name:
		return api.ErrField
	}
	switch packet[0] {
	case kindHello:
		return c.recvHello(packet)
	case kindWelcome:
		return c.recvWelcome(packet)
	case kindData:
		return c.recvData(packet)
	}
	return api.ErrKind
}

func (c *Conn) recvHello(packet string) api.Errno {
	if !c.server {
		return api.ErrState
	}
	_, nonce, e := Hello(c.psk, packet)
	if e != api.OK {
		return e
	}
	if nonce != c.nonce {
		return api.ErrOld
	}
	c.owesWelcome = true
	return api.OK
}

func (c *Conn) recvWelcome(packet string) api.Errno {
	switch {
	case c.server:
		return api.ErrState
	case c.phase == open:
		return api.ErrOld
	}
	theirs, e := openNonce(welcomeKey(c.psk, c.nonce), packet)
	if e != api.OK {
		return e
	}
	c.open(theirs)
	// A client greets no more, and is not greeted again.
	c.psk, c.nonce, c.greeting = "", "", ""
	return api.OK
}

func (c *Conn) recvData(packet string) api.Errno {
	if c.phase == waiting {
		return api.ErrState
	}
	n := numberOf(packet)
	if e := c.seen.Check(n); e != api.OK {
		return e
	}
	data, e := openPacket(c.theirs, packet)
	if e != api.OK {
		return e
	}
	c.seen.See(n)
	c.came.Add(n, n)
	l, e := frames.Parse(data)
	if e == api.OK {
		e = c.takeAll(l)
	}
	if e != api.OK {
		c.shut(codeOf(e), true)
	}
	return e
}

// codeOf is the code that an error of the other end closes with.
func codeOf(e api.Errno) int64 {
	switch e {
	case api.ErrFlow:
		return api.CodeFlow
	case api.ErrFinal:
		return api.CodeFinal
	}
	return api.CodeProto
}

// takeAll takes the frames of a packet, up to one that closes.
func (c *Conn) takeAll(l []api.Frame) api.Errno {
	asked := false
	for _, f := range l {
		if e := c.take(f); e != api.OK {
			return e
		}
		if c.phase == closed {
			return api.OK
		}
		asked = asked || frames.Elicits(f)
	}
	c.owesAck = c.owesAck || asked
	return api.OK
}

func (c *Conn) take(f api.Frame) api.Errno {
	switch f.Kind {
	case api.FAck:
		return c.takeAck(f.Ranges)
	case api.FReset, api.FStream:
		return c.takePart(f)
	case api.FLimit:
		s := c.writes(f.Id)
		if s == nil {
			return api.ErrRange
		}
		s.Allow(f.Off)
	case api.FDgram:
		if len(c.arrived) < api.MaxQueue {
			c.arrived = append(c.arrived, f.Data)
		}
	case api.FClose:
		c.shut(f.Code, false)
	}
	return api.OK
}

func (c *Conn) takeAck(r []api.Range) api.Errno {
	told, lost, e := c.ledger.Acked(r)
	if e != api.OK {
		return e
	}
	for _, n := range told {
		for _, f := range c.sent[n] {
			if f.Kind == api.FStream {
				c.writes(f.Id).Acked(pieceOf(f))
			}
		}
		delete(c.sent, n)
	}
	c.lose(lost)
	return api.OK
}

// takePart takes a piece of a stream that is read, or its reset.
func (c *Conn) takePart(f api.Frame) api.Errno {
	s := c.reads(f.Id)
	if s == nil {
		return api.ErrRange
	}
	var e api.Errno
	if f.Kind == api.FReset {
		e = s.Reset(f.Off)
	} else {
		e = s.Put(f.Off, f.Data, f.Fin)
	}
	s.taken = s.taken || e == api.OK
	return e
}

// lose has what lost packets had sent again.
func (c *Conn) lose(lost []int64) {
	for _, n := range lost {
		for _, f := range c.sent[n] {
			switch f.Kind {
			case api.FStream:
				c.writes(f.Id).Lost(pieceOf(f))
			case api.FLimit:
				c.reads(f.Id).retell = true
			case api.FReset:
				c.writes(f.Id).due = true
			}
		}
		delete(c.sent, n)
	}
}

// pieceOf is the piece that was sent as a frame.
func pieceOf(f api.Frame) outbox.Piece {
	return outbox.Piece{Off: f.Off, Data: f.Data, Fin: f.Fin}
}
