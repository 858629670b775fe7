package conn

import (
	"vizard/api"
	"vizard/inbox"
	"vizard/outbox"
)

// Streams that only one end writes.
const (
	clientWrites = 2
	serverWrites = 3
)

// tellStep is how far a limit must be above what was told last, to be told.
const tellStep = 2048

// stream is what an end keeps of a stream: both halves, or the one that it may read or write; the other one is nil.
type stream struct {
	id int64
	*coming
	*going
}

// coming is the half that is read.
type coming struct {
	*inbox.Box
	told   int64 // the limit that was told last
	retell bool  // a packet in which it was told was lost
	taken  bool  // a frame of it was taken
}

// going is the half that is written.
type going struct {
	*outbox.Box
	sent  int64 // the end of the furthest piece
	reset bool
	due   bool // the reset has to be sent
	code  int64
}

// newStreams is all streams, rising, with the halves that an end has.
func newStreams(server bool) []stream {
	own, other := int64(clientWrites), int64(serverWrites)
	if server {
		own, other = other, own
	}
	var all []stream
	for id := range int64(4 * api.MaxStreams) {
		shared := id%4 == 0
		s := stream{id: id}
		if shared || id == other {
			s.coming = &coming{Box: inbox.New(), told: api.Buffer}
		}
		if shared || id == own {
			s.going = &going{Box: outbox.New()}
		}
		if s.coming != nil || s.going != nil {
			all = append(all, s)
		}
	}
	return all
}

// reads is the half of a stream that is read; nil, where the end may not.
func (c *Conn) reads(id int64) *coming {
	for _, s := range c.streams {
		if s.id == id {
			return s.coming
		}
	}
	return nil
}

// writes is the half of a stream that is written; nil, where the end may not.
func (c *Conn) writes(id int64) *going {
	for _, s := range c.streams {
		if s.id == id {
			return s.going
		}
	}
	return nil
}

// limit is how many bytes the other end may send in all.
func (s *coming) limit() int64 {
	_, limit, _ := s.State()
	return limit
}

// untold tells whether the limit is to be told.
func (s *coming) untold() bool {
	return s.retell || s.limit()-s.told >= tellStep
}

// tell notes that the limit was told.
func (s *coming) tell() {
	s.told, s.retell = s.limit(), false
}

// next is the next piece to send, of at most so many bytes.
func (s *going) next(most int) (outbox.Piece, bool) {
	if s.reset {
		return outbox.Piece{}, false
	}
	p, ok := s.Next(most)
	s.sent = max(s.sent, p.Off+int64(len(p.Data)))
	return p, ok
}
