package conn_test

import (
	"math"
	"testing"

	"vizard/api"
)

var manyCodes = []int64{math.MinInt64, -1 << 32, -1, 0, 1, 0x0a, 0x100, 1 << 32, most - 1, most, most + 1, math.MaxInt64}

// eachPhase does something with ends in all phases, closed in each way that there is.
func eachPhase(t *testing.T, do func(b *both)) {
	t.Helper()
	do(dialed(t))
	do(accepted(t))
	eachEnd(t, do)
	b := dialed(t)
	b.close(5)
	do(b)
	eachEnd(t, func(b *both) {
		b.close(5)
		do(b)
	})
	eachEnd(t, func(b *both) {
		b.feed(closes(7))
		do(b)
	})
	eachEnd(t, func(b *both) {
		b.fault(api.ErrRange, 0x0a, limit(1, 1))
		do(b)
	})
}

// closedOr is ErrClosed of an end that is closed, and else an error.
func (b *both) closedOr(e api.Errno) api.Errno {
	if phase, _ := b.c.State(); phase == 3 {
		return api.ErrClosed
	}
	return e
}

// TestWrite is promise 13.4 of Write on each stream, and on what is none, in each phase.
func TestWrite(t *testing.T) {
	for _, id := range manyIds {
		eachPhase(t, func(b *both) {
			want := b.closedOr(api.OK)
			behind := b.closedOr(api.ErrState)
			if !mayWrite(b.p.server, id) {
				want = b.closedOr(api.ErrRange)
				behind = want
			}
			b.wantWrite(id, "", false, want)
			b.wantWrite(id, "abc", false, want)
			b.wantWrite(id, text(4*4096-3), false, want)
			full := want
			if want == api.OK {
				full = api.ErrFull
			}
			b.wantWrite(id, "x", true, full)
			b.wantWrite(id, "", true, want)
			b.wantWrite(id, "", true, behind)
			b.wantWrite(id, "x", false, behind)
			b.wantReset(id, 0, want)
			b.wantWrite(id, "x", false, behind)
			b.wantWrite(id, text(4*4096+1), false, behind)
			b.wantSent(id, false)
		})
	}
}

// TestWriteAfterReset is promise 13.4: ErrState is told ahead of what the outbox would tell, and nothing is written.
func TestWriteAfterReset(t *testing.T) {
	eachEnd(t, func(b *both) {
		b.wantReset(4, 1, api.OK)
		b.wantWrite(4, text(4*4096+1), false, api.ErrState)
		b.wantWrite(4, "", true, api.ErrState)
		b.wantWrite(8, text(4*4096+1), false, api.ErrFull)
		b.wantWrite(8, "other streams go on", true, api.OK)
		b.wantSend(0, 128, resets(4, 1, 0), piece(8, 0, "other streams go on", true))
		b.feed(ack(0, 0))
		b.wantSent(4, false)
		b.wantSent(8, true)
	})
}

// TestRead is promise 13.4 of Read on each stream, and on what is none, in each phase, of any number of bytes.
func TestRead(t *testing.T) {
	for _, id := range manyIds {
		eachPhase(t, func(b *both) {
			for _, n := range manyNumbers {
				b.wantRead(id, n, "")
			}
		})
		eachEnd(t, func(b *both) {
			if !mayRead(b.p.server, id) {
				return
			}
			for _, other := range allStreams {
				if mayRead(b.p.server, other) {
					b.feed(piece(other, 0, "of "+string([]byte{byte(other)}), true))
				}
			}
			for _, n := range []int{math.MinInt, -1, 0} {
				b.wantRead(id, n, "")
			}
			b.wantRead(id, 2, "of")
			b.close(1)
			b.wantRead(id, 1, " ") // closed, what came can still be read
			b.wantRead(id, math.MaxInt, string([]byte{byte(id)}))
			b.wantHow(id, 1, 4)
			b.wantRead(id, 9, "")
		})
	}
}

// TestReset is promise 13.4 of Reset on each stream, and on what is none, in each phase, with codes that are none, and twice.
func TestReset(t *testing.T) {
	for _, id := range manyIds {
		for _, code := range manyCodes {
			eachPhase(t, func(b *both) {
				want, again := b.closedOr(api.OK), b.closedOr(api.ErrState)
				right := code >= 0 && code <= most
				if !mayWrite(b.p.server, id) {
					want, again = b.closedOr(api.ErrRange), b.closedOr(api.ErrRange)
				}
				if !right {
					b.wantReset(id, code, b.closedOr(api.ErrRange))
					b.wantReset(id, 0, want)
					b.wantReset(id, code, b.closedOr(api.ErrRange)) // that is told first
					return
				}
				b.wantReset(id, code, want)
				b.wantReset(id, code, again)
				b.wantReset(id, 0, again)
				b.wantReset(id, -1, b.closedOr(api.ErrRange))
				b.wantReset(id, most+1, b.closedOr(api.ErrRange))
				if want != api.OK || b.p.phase != 2 || b.p.welcome {
					return
				}
				b.wantSend(0, 128, resets(id, code, 0)) // the first code, once
				b.wantNothing(0, 128)
				b.wantReset(id, 0, api.ErrState)
				b.feed(ack(0, 0))
				b.wantReset(id, 0, api.ErrState)
				b.wantNothing(1000, 128)
			})
		}
	}
}

// TestResetRefused is rule R2 of promise 13.4: a Reset that is refused changes nothing.
func TestResetRefused(t *testing.T) {
	eachEnd(t, func(b *both) {
		b.wantReset(0, -1, api.ErrRange)
		b.wantReset(0, most+1, api.ErrRange)
		b.wantReset(1, 0, api.ErrRange)
		b.wantNothing(0, 128)
		b.wantWrite(0, "abc", true, api.OK)
		b.wantSend(0, 128, piece(0, 0, "abc", true))
	})
}

// TestResetPlaces is promise 13.4 of the place in an FReset: the end of the furthest piece that was sent, whatever became of it.
func TestResetPlaces(t *testing.T) {
	whole := text(6000)
	for _, fin := range []bool{false, true} {
		for sends := range 6 {
			eachEnd(t, func(b *both) {
				b.wantWrite(8, whole, fin, api.OK)
				at := 0
				for range sends {
					end := min(at+1151, 4096) // the other end allows no more
					if at < end {
						b.wantSend(0, 1200, piece(8, int64(at), whole[at:end], false))
					} else {
						b.wantNothing(0, 1200)
					}
					at = end
				}
				b.wantReset(8, 3, api.OK)
				b.wantSend(0, 128, resets(8, 3, int64(at)))
				b.feed(limit(8, 9000))
				b.wantSend(0, 128, ack(0, 0))
				b.wantNothing(7, 1200)
				b.wantSend(8, 128, resets(8, 3, int64(at)))
			})
		}
	}
	eachEnd(t, func(b *both) { // an end that was sent alone, and pieces that are sent again, make it no greater
		b.wantWrite(0, "abc", false, api.OK)
		b.wantSend(0, 128, piece(0, 0, "abc", false))
		b.wantWrite(0, "", true, api.OK)
		b.wantSend(0, 128, piece(0, 3, "", true))
		b.feed(ack(1, 1))
		b.wantSend(8, 128, piece(0, 0, "abc", true))
		b.wantReset(0, 2, api.OK)
		b.wantSend(8, 128, resets(0, 2, 3))
	})
	eachEnd(t, func(b *both) { // a piece that is sent again from the front makes it no less
		b.wantWrite(0, text(100), false, api.OK)
		b.wantSend(0, 128, piece(0, 0, text(79), false))
		b.wantSend(0, 128, piece(0, 79, text(100)[79:], false))
		b.wantSend(8, 128, piece(0, 0, text(79), false))
		b.wantReset(0, 2, api.OK)
		b.wantSend(8, 128, resets(0, 2, 100))
	})
}

// TestResetOther is promises 13.2 and 13.4: a stream that this end has reset can still be read, and one that was reset still be written.
func TestResetOther(t *testing.T) {
	eachEnd(t, func(b *both) {
		b.wantReset(0, 1, api.OK)
		b.feed(piece(0, 0, "abc", true))
		b.wantRead(0, 9, "abc")
		b.wantHow(0, 1, 3)
		b.feed(resets(4, 1, 0))
		b.wantHow(4, 2, 0)
		b.wantWrite(4, "abc", true, api.OK)
		b.wantSend(0, 128, ack(0, 1), resets(0, 1, 0), piece(4, 0, "abc", true))
	})
}

// TestPush is promise 13.5 of datagrams of 1000 bytes and of one more, and of the 32nd and the 33rd.
func TestPush(t *testing.T) {
	eachPhase(t, func(b *both) {
		b.wantPush(text(1001), b.closedOr(api.ErrLong))
		b.wantPush(text(5000), b.closedOr(api.ErrLong))
		b.wantPush(text(1000), b.closedOr(api.OK))
		b.wantPush("", b.closedOr(api.OK))
		for range 30 {
			b.wantPush("x", b.closedOr(api.OK))
		}
		b.wantPush("x", b.closedOr(api.ErrFull))
		b.wantPush("", b.closedOr(api.ErrFull))
		b.wantPush(text(1000), b.closedOr(api.ErrFull))
		b.wantPush(text(1001), b.closedOr(api.ErrLong))
		b.wantPull("", false) // they go to the other end
	})
	eachEnd(t, func(b *both) {
		for i := range 32 {
			b.wantPush(string([]byte{byte(i)}), api.OK)
		}
		b.wantPush("x", api.ErrFull)
		var l []api.Frame
		for i := range 32 {
			l = append(l, dgram(string([]byte{byte(i)})))
		}
		b.wantSend(0, 128, l...)
		for range 32 {
			b.wantPush("y", api.OK)
		}
		b.wantPush("x", api.ErrFull)
	})
	eachEnd(t, func(b *both) { // one that was sent makes room for one
		for range 32 {
			b.wantPush(text(600), api.OK)
		}
		b.wantSend(0, 1200, dgram(text(600)))
		b.wantPush("x", api.OK)
		b.wantPush("x", api.ErrFull)
	})
}

// TestPull is promise 13.5 of datagrams that came: in their order, each once, in each phase.
func TestPull(t *testing.T) {
	eachPhase(t, func(b *both) {
		for range 3 {
			b.wantPull("", false)
		}
	})
	eachEnd(t, func(b *both) {
		b.feed(dgram("a"), dgram(""), dgram("a"))
		b.feed(dgram("b"))
		b.wantPull("a", true)
		b.feed(dgram("c"))
		b.wantPull("", true)
		b.close(1)
		b.wantPull("a", true)
		b.wantPull("b", true)
		b.wantPull("c", true)
		b.wantPull("", false)
	})
}

// TestClose is promises 13.5 and 13.6 of Close in each phase, twice, with codes that are none.
func TestClose(t *testing.T) {
	for _, code := range manyCodes {
		want := code
		if code < 0 || code > most {
			want = 0
		}
		b := dialed(t)
		b.close(code)
		b.wantState(3, want)
		b.close(code + 1)
		b.wantState(3, want)
		b.wantNothing(0, 128) // in phase 1 there is nothing to be sent
		b.wantNothing(100, 1200)
		b.wantRecv(welcomeOf(nonce), api.ErrClosed)
		b = dialed(t)
		b.wantPacket(0, 128, helloOf(theirs))
		b.close(code)
		b.wantNothing(100, 1200)
		b = accepted(t)
		b.close(code)
		b.wantState(3, want)
		b.wantGoodbye(want) // and no welcome
		eachEnd(t, func(b *both) {
			b.close(code)
			b.wantState(3, want)
			b.close(code - 1)
			b.close(77)
			b.wantState(3, want)
			b.wantGoodbye(want)
			b.close(78)
			b.wantState(3, want)
			b.wantNothing(0, 128)
		})
		eachEnd(t, func(b *both) {
			b.feed(closes(99))
			b.close(code)
			b.wantState(3, 99)
			b.wantNothing(0, 128)
		})
		eachEnd(t, func(b *both) {
			b.wantRecv(b.dataPacket(0, "\x03"), api.ErrKind)
			b.close(code)
			b.wantState(3, 0x0a)
			b.wantGoodbye(0x0a)
		})
	}
}

// TestCloseKeeps is promises 13.5 and 13.6: what an end tells of its streams, it tells when it is closed, too.
func TestCloseKeeps(t *testing.T) {
	eachEnd(t, func(b *both) {
		b.wantWrite(0, "abc", true, api.OK)
		b.wantWrite(4, "not there", true, api.OK)
		b.wantSend(0, 128, piece(0, 0, "abc", true), piece(4, 0, "not there", true))
		b.wantWrite(8, "there", true, api.OK)
		b.wantSend(0, 128, piece(8, 0, "there", true))
		b.feed(ack(1, 1), piece(12, 0, "abc", true), resets(16, 0, 9), piece(20, 1, "x", false))
		b.wantRead(12, 2, "ab")
		b.close(4)
		b.wantStreams(12, 16, 20)
		b.wantHow(12, 0, 2)
		b.wantRead(12, 2, "c")
		b.wantHow(12, 1, 3)
		b.wantHow(16, 2, 0)
		b.wantHow(20, 0, 0)
		b.wantSent(8, true)
		b.wantSent(0, false)
		b.wantSent(4, false)
		b.wantGoodbye(4)
		b.wantStreams(12, 16, 20)
		b.wantSent(8, true)
	})
}

// TestStreams is promise 13.6: the streams on which something was taken, rising, whatever the order was, each once; what was refused does not count.
func TestStreams(t *testing.T) {
	eachPhase(t, func(b *both) { b.wantStreams() })
	eachEnd(t, func(b *both) {
		other := int64(2)
		if !b.p.server {
			other = 3
		}
		b.feed(resets(28, 1, 0), piece(4, 0, "", false))
		b.wantStreams(4, 28)
		b.feed(piece(other, 9, "", true), piece(4, 0, "x", false), resets(28, 1, 0))
		b.wantStreams(other, 4, 28)
		b.feed(piece(16, 0, "x", false))
		b.wantWrite(8, "x", false, api.OK)
		b.wantReset(12, 0, api.OK)
		b.feed(limit(20, 5000), dgram("x"), ping)
		b.wantStreams(other, 4, 16, 28)
		b.wantRead(16, 9, "x")
		b.fault(api.ErrFlow, 3, piece(0, 0, "x", false), piece(24, 5000, "x", false))
		b.wantStreams(0, other, 4, 16, 28)
	})
}

// TestHowSent is promise 13.6 of a stream that is written and read by both, from its beginning to its end.
func TestHowSent(t *testing.T) {
	for _, id := range []int64{0, 4, 8, 12, 16, 20, 24, 28} {
		eachEnd(t, func(b *both) {
			b.wantHow(id, 0, 0)
			b.wantSent(id, false)
			b.feed(piece(id, 2, "cd", true))
			b.wantHow(id, 0, 0)
			b.feed(piece(id, 0, "ab", false))
			b.wantHow(id, 0, 0)
			b.wantRead(id, 3, "abc")
			b.wantHow(id, 0, 3)
			b.wantRead(id, 3, "d")
			b.wantHow(id, 1, 4)
			b.wantSent(id, false)
			b.wantWrite(id, "xy", false, api.OK)
			b.wantSend(0, 128, ack(0, 1), piece(id, 0, "xy", false))
			b.feed(ack(0, 0))
			b.wantSent(id, false)
			b.wantWrite(id, "", true, api.OK)
			b.wantSent(id, false)
			b.wantSend(0, 128, piece(id, 2, "", true))
			b.wantSent(id, false)
			b.feed(ack(1, 1))
			b.wantSent(id, true)
			b.feed(resets(id, 0, 4)) // all was read: nothing changes
			b.wantHow(id, 1, 4)
		})
	}
}

// TestEndless is rule R1 of the chapter's calls at wrong arguments, one behind the other, on one end.
func TestEndless(t *testing.T) {
	eachPhase(t, func(b *both) {
		for _, id := range manyIds {
			for _, n := range []int{math.MinInt, -1, 0, 5000, math.MaxInt} {
				b.read(id, n)
				b.send(int64(n), n)
			}
			b.write(id, text(20000), true)
			b.reset(id, math.MinInt64)
			b.push(text(1 << 16))
			b.recv(text(1 << 16))
			b.recv("\x03" + name + text(1<<16))
		}
	})
}
