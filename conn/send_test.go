package conn_test

import (
	"math"
	"slices"
	"strings"
	"testing"

	"vizard/api"
	"vizard/frames"
)

// gaps takes packets that ask for an answer, so many, with a gap between each two: the FAck is told, whose numbers have four bytes each.
func (b *both) gaps(n int) api.Frame {
	b.t.Helper()
	var r []api.Range
	for i := range n {
		b.far = 20000 + uint32(2*i)
		b.feed(ping)
		r = append([]api.Range{{Low: int64(b.far) - 1, High: int64(b.far) - 1}}, r...)
	}
	return ackRanges(r...)
}

// sizeOf is how many bytes a packet with frames has, if it isn't filled up.
func sizeOf(l ...api.Frame) int {
	s, _ := frames.Write(l)
	return 29 + len(s)
}

// TestSendSizes is promise 13.3 of sizes that are none: nothing is sent, and what has to be sent still has to be.
func TestSendSizes(t *testing.T) {
	wrong := func(b *both) {
		for _, size := range manyNumbers {
			b.wantNothing(100, size)
		}
	}
	b := dialed(t)
	wrong(b)
	b.wantPacket(0, 128, helloOf(theirs))
	wrong(b)
	b.wantPacket(8, 1200, helloOf(theirs))
	b = accepted(t)
	wrong(b)
	b.wantPacket(0, 1200, welcomeOf(nonce))
	eachEnd(t, func(b *both) {
		b.wantWrite(4, "abc", true, api.OK)
		wrong(b)
		b.wantSend(0, 128, piece(4, 0, "abc", true))
		wrong(b) // nothing is given up, though 100 ticks are over
		b.wantNothing(7, 1200)
		b.wantSend(8, 1200, piece(4, 0, "abc", true))
		b.close(9)
		wrong(b)
		b.wantGoodbye(9)
		wrong(b)
	})
}

// TestHelloTicks is promise 13.3 of hellos: at once, and again when the last one was sent 8 or more ticks ahead.
func TestHelloTicks(t *testing.T) {
	hello := helloOf(theirs)
	for _, start := range []int64{math.MinInt64, -1 << 40, -4, 0, 5, 1 << 62, math.MaxInt64 - 16} {
		b := dialed(t)
		b.wantPacket(start, 128, hello)
		for i := range int64(8) {
			b.wantNothing(start+i, 1200)
		}
		b.wantPacket(start+8, 500, hello)
		for i := range int64(16) {
			b.wantNothing(start+i, 128) // also at ticks ahead of the last one
		}
		b.wantPacket(start+16, 128, hello)
		b.wantNothing(start+16, 128)
		b.wantNothing(math.MinInt64, 128)
		b.wantState(1, 0)
	}
	for _, late := range []int64{8, 9, 10, 100, math.MaxInt64} {
		b := dialed(t)
		b.wantPacket(0, 128, hello)
		b.wantNothing(7, 128)
		b.wantPacket(late, 128, hello)
		b.wantNothing(late, 128)
		b.wantNothing(0, 128)
		b.wantNothing(math.MinInt64, 128)
	}
	b := dialed(t) // ticks that lie further apart than the greatest tick
	b.wantPacket(math.MinInt64, 128, hello)
	b.wantPacket(math.MaxInt64, 128, hello)
	b.wantNothing(math.MinInt64, 128)
	b.wantNothing(math.MinInt64+7, 128)
	b.wantNothing(-1, 128)
	b.wantNothing(math.MaxInt64, 128)
}

// TestHelloAlone is promise 13.3: in phase 1 nothing goes out but hellos, whatever waits; then it goes out.
func TestHelloAlone(t *testing.T) {
	b := dialed(t)
	b.wantWrite(2, "two", false, api.OK)
	b.wantReset(8, 1, api.OK)
	b.wantPush("d", api.OK)
	b.wantPacket(0, 1200, helloOf(theirs))
	b.wantNothing(7, 1200)
	b.wantPacket(8, 1200, helloOf(theirs))
	b.wantRecv(welcomeOf(nonce), api.OK)
	b.wantSend(8, 128, resets(8, 1, 0), piece(2, 0, "two", false), dgram("d"))
	b.wantNothing(8, 128)
}

// TestWelcomeFirst is promise 13.3: the welcome goes ahead of all else, and once more ahead of all else when a hello comes again.
func TestWelcomeFirst(t *testing.T) {
	b := accepted(t)
	b.wantWrite(3, "three", true, api.OK)
	b.wantPush("d", api.OK)
	b.wantReset(0, 2, api.OK)
	b.feed(ping)
	b.wantPacket(0, 128, welcomeOf(nonce))
	b.wantSend(0, 128, ack(0, 0), resets(0, 2, 0), piece(3, 0, "three", true), dgram("d"))
	b.wantNothing(0, 128)
	b.feed(ping)
	b.wantRecv(helloOf(theirs), api.OK)
	b.wantPacket(8, 1200, welcomeOf(nonce))
	b.wantSend(7, 128, ack(0, 1)) // the welcome gave nothing up
	b.wantSend(8, 128, resets(0, 2, 0), piece(3, 0, "three", true))
	b.wantRecv(helloOf(theirs), api.OK)
	b.close(5)
	b.wantSend(8, 128, closes(5)) // closed, it welcomes nobody
	b.wantNothing(8, 128)
}

// TestGoodbye is promises 13.3 and 13.5 of an FClose: alone, ahead of anything else, once, and nothing behind it.
func TestGoodbye(t *testing.T) {
	for _, code := range []int64{0, 1, 63, 64, 1 << 14, 1 << 30, most} {
		for _, size := range []int{128, 129, 1199, 1200} {
			eachEnd(t, func(b *both) {
				b.wantWrite(0, "sent", false, api.OK)
				b.wantSend(0, 128, piece(0, 0, "sent", false))
				b.wantWrite(0, "not sent", true, api.OK)
				b.wantReset(4, 1, api.OK)
				b.wantPush("d", api.OK)
				b.feed(ping)
				b.close(code)
				b.wantState(3, code)
				b.wantNothing(100, 127)
				p := b.wantSend(100, size, closes(code))
				if len(p) != size || p[9:13] != "\x00\x00\x00\x01" {
					t.Fatalf("%d bytes, number %q", len(p), p[9:13])
				}
				for _, now := range []int64{0, 100, 108, 1 << 40} {
					b.wantNothing(now, size)
				}
				b.close(1)
				b.wantNothing(100, size)
			})
		}
	}
}

// TestNumbers is promise 13.3: numbers go from 0 on, and only by packets of data that were sent.
func TestNumbers(t *testing.T) {
	eachEnd(t, func(b *both) {
		for i := range 300 {
			b.wantNothing(0, 128)
			b.wantPush("x", api.OK)
			p := b.wantSend(0, 128, dgram("x"))
			if want := string([]byte{0, 0, byte(i >> 8), byte(i)}); p[9:13] != want {
				t.Fatalf("number %q, want %q", p[9:13], want)
			}
			b.feed(ack(0, int64(i)))
			if b.p.server {
				b.wantRecv(helloOf(theirs), api.OK)
				b.wantPacket(0, 128, welcomeOf(nonce))
			}
		}
	})
}

// TestPadding is promise 13.3 of every size: a packet has just so many bytes, and all behind its frames is FPad.
func TestPadding(t *testing.T) {
	b := opened(t, true)
	for size := 128; size <= 1200; size++ {
		b.wantPush("x", api.OK)
		p := b.wantSend(0, size, dgram("x"))
		data, ok := dataOf(b.p.mine(), p)
		if len(p) != size || !ok || data != "\x30\x01x"+strings.Repeat("\x00", size-32) {
			t.Fatalf("%d bytes, want %d: %s", len(p), size, short(data))
		}
		b.feed(ack(int64(size-128), int64(size-128)))
	}
}

// TestFullPackets is promise 13.3 of frames that fill a packet to its very end, with one byte less and with one more.
func TestFullPackets(t *testing.T) {
	eachEnd(t, func(b *both) {
		for _, size := range []int{128, 129, 200, 1000, 1200} {
			n := size - 29 - 3 // 1 for the kind, 2 for the count
			if n > 1000 {
				continue
			}
			for less := range 2 {
				b.wantPush(text(n-less), api.OK)
				b.wantSend(0, size, dgram(text(n-less)))
			}
			b.wantPush(text(n+1), api.OK)
			b.wantNothing(0, size)
			b.wantSend(0, size+1, dgram(text(n+1)))
			b.feed(ack(b.p.number-3, b.p.number-1))
			b.feed(ping)
			b.wantSend(0, 128, ack(0, int64(b.far)-1))
		}
	})
}

// TestOrder is promise 13.3 of all kinds of frames in one packet: acks, limits, resets, pieces and datagrams, each by rising streams.
func TestOrder(t *testing.T) {
	eachEnd(t, func(b *both) {
		var want []api.Frame
		for _, id := range allStreams {
			if mayRead(b.p.server, id) {
				for i := range 2 {
					b.feed(piece(id, int64(1024*i), text(2048)[1024*i:1024*(i+1)], false))
				}
				b.wantRead(id, 5000, text(2048))
				want = append(want, limit(id, 6144))
			}
		}
		want = append([]api.Frame{ack(0, int64(b.far)-1)}, want...)
		order := slices.Clone(allStreams)
		slices.Reverse(order)
		for i, id := range order {
			if mayWrite(b.p.server, id) && i%2 == 0 {
				b.wantReset(id, id+1, api.OK)
			} else if mayWrite(b.p.server, id) {
				b.wantWrite(id, "on "+string([]byte{byte('a' + id)}), id%8 == 0, api.OK)
			}
		}
		for i, id := range allStreams {
			if mayWrite(b.p.server, id) && i%2 == 1 {
				want = append(want, resets(id, id+1, 0))
			}
		}
		for i, id := range allStreams {
			if mayWrite(b.p.server, id) && i%2 == 0 {
				want = append(want, piece(id, 0, "on "+string([]byte{byte('a' + id)}), id%8 == 0))
			}
		}
		for i := range 5 {
			b.wantPush(strings.Repeat("d", 5-i), api.OK)
			want = append(want, dgram(strings.Repeat("d", 5-i)))
		}
		b.wantSend(0, 1200, want...)
		b.wantNothing(0, 1200)
		b.wantNothing(7, 128)
		again := slices.DeleteFunc(slices.Clone(want), func(f api.Frame) bool { return f.Kind == api.FAck || f.Kind == api.FDgram })
		b.wantSend(8, 1200, again...) // it was lost: acks and datagrams are not sent again
		b.wantNothing(23, 1200)
		b.wantSend(24, 1200, again...)
		b.feed(ack(2, 2))
		b.wantNothing(1000, 1200)
	})
}

// TestAckFits is promise 13.3 of an FAck that just fits, fits with a byte to spare, and does not fit, where what comes behind it is still tried, and it still has to be sent.
func TestAckFits(t *testing.T) {
	for _, spare := range []int{0, 1, 2, 3} {
		eachEnd(t, func(b *both) {
			told := b.gaps(13)
			size := sizeOf(told)
			if size != 135 {
				t.Fatalf("%d bytes", size)
			}
			b.wantNothing(0, 128)
			b.wantNothing(0, size-1)
			b.wantPush("", api.OK)
			b.wantSend(0, size-1, dgram(""))
			b.wantPush("", api.OK)
			if spare < 2 {
				b.wantSend(0, size+spare, told)
				b.wantSend(0, size, dgram(""))
			} else {
				b.wantSend(0, size+spare, told, dgram(""))
			}
			b.wantNothing(0, 1200)
		})
	}
}

// TestMostRanges is promise 13.3 of more ranges than are told at once: the lowest are not.
func TestMostRanges(t *testing.T) {
	eachEnd(t, func(b *both) {
		told := b.gaps(20)
		told.Ranges = told.Ranges[:16]
		b.wantSend(0, 1200, told)
		b.far = 20003
		b.feed(ping) // one that is taken away at once asks for an answer as well
		b.wantSend(0, 1200, told)
		b.far = 20007
		b.feed(ping)
		told.Ranges[15].Low -= 1
		b.wantSend(0, 1200, told)
	})
}

// readSome lets so many bytes of a stream come and be read.
func (b *both) readSome(id int64, from, upto int) {
	b.t.Helper()
	for from < upto {
		end := min(from+1100, upto)
		b.feed(piece(id, int64(from), text(end)[from:], false))
		b.wantRead(id, 5000, text(end)[from:])
		from = end
	}
}

// TestLimitFits is promise 13.3 of limits that just fit and that do not, where lesser ones behind them are still tried.
func TestLimitFits(t *testing.T) {
	for spare := -2; spare <= 3; spare++ {
		eachEnd(t, func(b *both) {
			b.readSome(0, 0, 16384) // its limit has four bytes
			b.readSome(4, 0, 2048)
			b.wantPush("", api.OK)
			told := b.gaps(12)
			told.Ranges = append(told.Ranges, api.Range{Low: 0, High: 16})
			all := []api.Frame{told, limit(0, 20480), limit(4, 6144), dgram("")}
			size := sizeOf(all[:2]...) + spare
			if size-spare != 135 {
				t.Fatalf("%d bytes", size-spare)
			}
			switch {
			case spare < 0: // too little for the first: the second has two bytes fewer
				b.wantSend(0, size, told, limit(4, 6144))
				b.wantSend(0, 128, limit(0, 20480), dgram(""))
			case spare < 2:
				b.wantSend(0, size, told, limit(0, 20480))
				b.wantSend(0, 128, limit(4, 6144), dgram(""))
			default:
				b.wantSend(0, size, told, limit(0, 20480), dgram(""))
				b.wantSend(0, 128, limit(4, 6144))
			}
			b.wantNothing(0, 1200)
		})
	}
}

// TestResetFits is promise 13.3 of resets that just fit and that do not, where lesser ones behind them are still tried.
func TestResetFits(t *testing.T) {
	for spare := -8; spare <= 5; spare++ {
		eachEnd(t, func(b *both) {
			told := b.gaps(12)
			b.wantReset(0, most, api.OK) // 11 bytes
			b.wantReset(4, 63, api.OK)   // 4 bytes
			b.wantPush("", api.OK)
			size := sizeOf(told, resets(0, most, 0)) + spare
			first := []api.Frame{told}
			second := []api.Frame{}
			switch {
			case spare < -7:
				first, second = append(first, dgram("")), append(second, resets(0, most, 0), resets(4, 63, 0))
			case spare < -5:
				first, second = append(first, resets(4, 63, 0)), append(second, resets(0, most, 0), dgram(""))
			case spare < 0:
				first, second = append(first, resets(4, 63, 0), dgram("")), append(second, resets(0, most, 0))
			case spare < 2:
				first, second = append(first, resets(0, most, 0)), append(second, resets(4, 63, 0), dgram(""))
			case spare < 4:
				first, second = append(first, resets(0, most, 0), dgram("")), append(second, resets(4, 63, 0))
			default:
				first, second = append(first, resets(0, most, 0), resets(4, 63, 0)), append(second, dgram(""))
			}
			b.wantSend(0, size, first...)
			b.wantSend(0, 128, second...)
			b.wantNothing(0, 1200)
		})
	}
}

// TestPieceRoom is promise 13.3 of room for a piece: with 20 bytes left none, with 21 one byte of it, with 22 two; what comes behind is still tried.
func TestPieceRoom(t *testing.T) {
	for left := 0; left <= 60; left++ {
		eachEnd(t, func(b *both) {
			told := b.gaps(13)
			b.wantWrite(0, text(30), true, api.OK)
			b.wantWrite(4, "", true, api.OK)
			want := []api.Frame{told}
			took := max(0, min(left-20, 30))
			rest := left
			if took > 0 {
				want = append(want, piece(0, 0, text(took), took == 30))
				rest -= 5 + took
			}
			second := rest > 20
			if second {
				want = append(want, piece(4, 0, "", true))
				rest -= 5
			}
			b.wantPush("dgram", api.OK)
			b.wantPush("", api.OK)
			if rest >= 7 {
				want = append(want, dgram("dgram"))
				rest -= 7
				if rest >= 2 {
					want = append(want, dgram(""))
				}
			}
			b.wantSend(0, sizeOf(told)+left, want...)
			if left == 20 && (took != 0 || second) || left == 21 && took != 1 || left == 22 && took != 2 {
				t.Fatalf("with %d bytes left %d were taken", left, took)
			}
		})
	}
}

// TestEndRoom is promise 13.3 of an end without bytes: it needs the same room.
func TestEndRoom(t *testing.T) {
	for left := 18; left <= 23; left++ {
		eachEnd(t, func(b *both) {
			told := b.gaps(13)
			b.wantWrite(0, "", true, api.OK)
			want := []api.Frame{told}
			if left >= 21 {
				want = append(want, piece(0, 0, "", true))
			}
			b.wantSend(0, sizeOf(told)+left, want...)
			b.wantSent(0, false)
		})
	}
}

// TestPieceSizes is promise 13.3 of a long stream: each piece has 20 bytes less than there is room for.
func TestPieceSizes(t *testing.T) {
	for _, size := range []int{128, 129, 500, 1200} {
		eachEnd(t, func(b *both) {
			b.wantWrite(8, text(4096), true, api.OK)
			for at := 0; at < 4096; {
				var want []api.Frame
				if at > 0 {
					want = append(want, ack(0, int64(b.far)-1))
				}
				end := min(at+size-20-sizeOf(want...), 4096)
				want = append(want, piece(8, int64(at), text(4096)[at:end], end == 4096))
				b.wantSend(0, size, want...)
				b.feed(ack(0, b.p.number-1), ping)
				at = end
			}
			b.wantSent(8, true)
		})
	}
}

// TestPiecesOfStreams is promise 13.3 of pieces of several streams, and of several pieces of one, in one packet.
func TestPiecesOfStreams(t *testing.T) {
	eachEnd(t, func(b *both) {
		for i := range 7 {
			b.wantWrite(0, "abcdefg"[i:i+1], i == 6, api.OK)
			b.wantSend(0, 128, piece(0, int64(i), "abcdefg"[i:i+1], i == 6))
		}
		b.wantWrite(4, "four", false, api.OK)
		b.wantWrite(28, "last", true, api.OK)
		b.feed(ackRanges(api.Range{Low: 6, High: 6}, api.Range{Low: 1, High: 1})) // 0, 2 and 3 are lost
		b.wantSend(0, 128, piece(0, 0, "a", false), piece(0, 2, "cd", false), piece(4, 0, "four", false), piece(28, 0, "last", true))
		b.feed(ack(7, 7)) // 4 is lost
		b.wantSend(0, 128, piece(0, 4, "e", false))
		b.feed(ack(5, 5))
		b.wantSent(0, false)
		b.feed(ack(8, 8))
		b.wantSent(0, true)
		b.wantSent(4, false)
		b.wantSent(28, true)
	})
}

// TestFirstDatagram is promise 13.3 of datagrams: as long as the first of them fits; those behind one that does not are not tried.
func TestFirstDatagram(t *testing.T) {
	eachEnd(t, func(b *both) {
		for _, n := range []int{10, 97, 1, 96, 95, 1000, 2} {
			b.wantPush(text(n), api.OK)
		}
		b.wantSend(0, 128, dgram(text(10)))
		b.wantNothing(0, 128)
		b.wantSend(0, 129, dgram(text(97)))
		b.wantSend(0, 128, dgram(text(1)))
		b.wantSend(0, 128, dgram(text(96)))
		b.wantSend(0, 128, dgram(text(95)))
		b.wantNothing(0, 128)
		b.wantWrite(0, "piece", false, api.OK)
		b.wantSend(0, 128, piece(0, 0, "piece", false)) // which is still tried
		b.wantSend(0, 1200, dgram(text(1000)), dgram(text(2)))
		b.wantNothing(0, 1200)
	})
}

// fill sends a packet of so many bytes that asks for an answer.
func (b *both) fill(size int) {
	b.t.Helper()
	b.wantPush("fill", api.OK)
	b.wantSend(0, size, dgram("fill"))
}

// TestWindow is promise 13.3 of the window: pieces and datagrams go if what is on its way and the packet are together at most as great; all else goes at any time.
func TestWindow(t *testing.T) {
	for _, over := range []int{-1, 0, 1} {
		eachEnd(t, func(b *both) {
			for range 9 {
				b.fill(1200)
			}
			b.fill(200) // 11000 of 12000 bytes
			b.wantWrite(0, "piece", true, api.OK)
			b.wantPush("d", api.OK)
			if over <= 0 {
				b.wantSend(0, 1000+over, piece(0, 0, "piece", true), dgram("d"))
			} else {
				b.wantNothing(0, 1000+over)
				b.wantSend(0, 1000, piece(0, 0, "piece", true), dgram("d"))
			}
			b.wantWrite(4, "waits", true, api.OK)
			b.wantPush("waits", api.OK)
			b.wantNothing(0, 128)
			b.readSome(8, 0, 2048)
			b.wantReset(12, 7, api.OK)
			b.wantSend(0, 128, ack(0, int64(b.far)-1), limit(8, 6144), resets(12, 7, 0))
			b.wantNothing(0, 128)
			b.feed(ack(0, 0)) // 1200 bytes less, and the window has grown by as many
			b.wantSend(0, 1200, piece(4, 0, "waits", true), dgram("waits"))
		})
	}
}

// TestWindowOfAcks is promise 13.3: packets that do not ask for an answer are not on their way.
func TestWindowOfAcks(t *testing.T) {
	eachEnd(t, func(b *both) {
		for i := range 50 {
			b.feed(ping)
			b.wantSend(0, 1200, ack(0, int64(i)))
		}
		for range 10 {
			b.fill(1200)
		}
		b.wantPush("x", api.OK)
		b.wantNothing(0, 128)
		b.wantSend(8, 128, dgram("x")) // all ten were given up: the window is 6000
		for range 4 {
			b.wantPush("x", api.OK)
			b.wantSend(8, 1200, dgram("x"))
		}
		b.wantPush("x", api.OK)
		b.wantNothing(8, 1073)
		b.wantSend(8, 1072, dgram("x"))
	})
}

// TestLostByAck is promises 13.2 and 13.3 of what an FAck tells as lost: pieces, limits and resets are sent again; acks and datagrams are not.
func TestLostByAck(t *testing.T) {
	eachEnd(t, func(b *both) {
		b.readSome(4, 0, 2048)
		b.wantWrite(0, "abc", false, api.OK)
		b.wantReset(8, 5, api.OK)
		b.wantPush("d", api.OK)
		b.wantSend(0, 128, ack(0, 1), limit(4, 6144), resets(8, 5, 0), piece(0, 0, "abc", false), dgram("d"))
		b.fill(128)
		b.fill(128)
		b.feed(ack(2, 2)) // 0 is not 3 below it
		b.wantNothing(7, 128)
		b.fill(128)
		b.feed(ack(3, 3))
		b.wantSend(0, 128, limit(4, 6144), resets(8, 5, 0), piece(0, 0, "abc", false))
		b.feed(ack(0, 0)) // it comes late, and is given up all the same
		b.wantNothing(7, 128)
		b.fill(128)
		b.fill(128)
		b.fill(128)
		b.feed(ack(7, 7))
		b.wantSend(7, 128, limit(4, 6144), resets(8, 5, 0), piece(0, 0, "abc", false))
		b.feed(ack(8, 8))
		b.wantNothing(1000, 128)
	})
}

// TestLostByTicks is promise 13.3 of what waits too long: after 8 ticks, then after 16, 32 and so on, as the ledger says.
func TestLostByTicks(t *testing.T) {
	eachEnd(t, func(b *both) {
		b.wantWrite(0, "abc", true, api.OK)
		b.wantSend(0, 128, piece(0, 0, "abc", true))
		now, wait := int64(0), int64(8)
		for range 9 {
			b.wantNothing(now+wait-1, 128)
			b.wantNothing(now-1, 128)
			b.wantSend(now+wait, 128, piece(0, 0, "abc", true))
			now += wait
			wait = min(2*wait, 512)
		}
		b.feed(ack(9, 9))
		b.wantSent(0, true)
		b.wantNothing(1<<40, 128)
		b.wantPush("x", api.OK)
		b.wantSend(now, 128, dgram("x"))
		b.wantNothing(now+8, 128) // a datagram is not sent again
		b.wantNothing(1<<40, 128)
	})
}

// TestLostJoins is promise 13.3: what is lost goes together with what is new.
func TestLostJoins(t *testing.T) {
	eachEnd(t, func(b *both) {
		b.wantWrite(0, "abc", false, api.OK)
		b.wantSend(0, 128, piece(0, 0, "abc", false))
		b.wantWrite(0, "def", true, api.OK)
		b.wantSend(8, 128, piece(0, 0, "abcdef", true))
		b.feed(ack(1, 1))
		b.wantSent(0, true)
	})
}

// TestAckNotAgain is promise 13.3: an FAck alone asks for nothing, and nobody waits for it.
func TestAckNotAgain(t *testing.T) {
	eachEnd(t, func(b *both) {
		b.feed(ping)
		b.wantSend(0, 128, ack(0, 0))
		b.wantNothing(8, 128)
		b.wantNothing(1<<40, 1200)
		b.feed(ping)
		b.wantPush("d", api.OK)
		b.wantSend(0, 128, ack(0, 1), dgram("d"))
		b.wantNothing(8, 128)
		b.wantNothing(1<<40, 1200)
	})
}

// TestTellLimit is promise 13.3 of a limit that is 2047, 2048 and 2049 above what was told last, and of the next one.
func TestTellLimit(t *testing.T) {
	for _, id := range allStreams {
		for _, n := range []int{2047, 2048, 2049, 4096} {
			eachEnd(t, func(b *both) {
				if !mayRead(b.p.server, id) {
					return
				}
				b.readSome(id, 0, n)
				b.feed(ping)
				last := int64(b.far) - 1
				told := 0
				if n < 2048 {
					b.wantSend(0, 128, ack(0, last))
				} else {
					b.wantSend(0, 128, ack(0, last), limit(id, int64(4096+n)))
					told = n
				}
				b.wantNothing(0, 128)
				b.readSome(id, n, told+2047)
				b.feed(ping)
				last = int64(b.far) - 1
				b.wantSend(0, 128, ack(0, last))
				b.readSome(id, max(n, told+2047), told+2048)
				last = int64(b.far) - 1
				b.wantSend(0, 128, ack(0, last), limit(id, int64(4096+told+2048)))
				b.wantNothing(0, 128)
			})
		}
	}
}

// TestTellUnread is promise 13.3: bytes that came and were not read raise no limit.
func TestTellUnread(t *testing.T) {
	eachEnd(t, func(b *both) {
		for i := range 4 {
			b.feed(piece(0, int64(1024*i), text(4096)[1024*i:1024*(i+1)], false))
		}
		b.wantSend(0, 128, ack(0, 3))
		b.wantRead(0, 2047, text(2047))
		b.wantNothing(0, 128)
		b.wantRead(0, 1, text(2048)[2047:])
		b.wantSend(0, 128, limit(0, 6144))
		b.wantRead(0, 2048, text(4096)[2048:])
		b.wantSend(0, 128, limit(0, 8192))
		b.wantNothing(0, 128)
	})
}

// TestTellEnded is promise 13.3: the limit is told of a stream that has ended, too, for nothing says otherwise.
func TestTellEnded(t *testing.T) {
	eachEnd(t, func(b *both) {
		b.readSome(0, 0, 2047)
		b.feed(piece(0, 2047, "x", true))
		b.wantRead(0, 9, "x")
		b.wantHow(0, 1, 2048)
		b.readSome(4, 0, 2048)
		b.feed(resets(4, 1, 3000))
		b.wantHow(4, 2, 2048)
		b.wantSend(0, 128, ack(0, int64(b.far)-1), limit(0, 6144), limit(4, 6144))
		b.wantSend(8, 128, limit(0, 6144), limit(4, 6144))
	})
}

// TestTellAgain is promise 13.3 of a limit that was told and lost: it is told again as it is then, also if it is hardly above, once.
func TestTellAgain(t *testing.T) {
	for _, more := range []int{0, 1, 2047, 2048} {
		eachEnd(t, func(b *both) {
			b.readSome(0, 0, 2048)
			b.wantSend(0, 128, ack(0, 1), limit(0, 6144))
			b.readSome(0, 2048, 2048+more)
			want := []api.Frame{limit(0, int64(6144+more))}
			if more > 0 {
				want = append([]api.Frame{ack(0, int64(b.far)-1)}, want...)
			}
			b.wantSend(8, 128, want...)
			b.wantNothing(8, 128)
			b.readSome(0, 2048+more, 2048+more+2047)
			b.wantSend(8, 128, ack(0, int64(b.far)-1))
			b.readSome(0, 2048+more+2047, 2048+more+2048)
			b.wantSend(8, 128, ack(0, int64(b.far)-1), limit(0, int64(6144+more+2048)))
			b.feed(ack(1, 3)) // the first of these was lost; the packet between does not ask
			b.wantNothing(1000, 128)
		})
	}
}

// TestTellOlder is promise 13.2 of a lost packet with a limit above which another one was told since: what it had is sent again, as it is now.
func TestTellOlder(t *testing.T) {
	eachEnd(t, func(b *both) {
		b.readSome(0, 0, 2048)
		b.wantSend(0, 128, ack(0, 1), limit(0, 6144))
		b.readSome(0, 2048, 4096)
		b.wantSend(0, 128, ack(0, 3), limit(0, 8192))
		b.fill(128)
		b.fill(128)
		b.feed(ack(1, 3)) // 0 is lost
		b.wantSend(0, 128, limit(0, 8192))
		b.wantNothing(0, 128)
		b.feed(ack(4, 4))
		b.wantNothing(1000, 128)
	})
}

// TestLostAfterReset is promises 13.2 to 13.4: of a stream that was reset no piece is sent again, but what comes there counts.
func TestLostAfterReset(t *testing.T) {
	eachEnd(t, func(b *both) {
		b.wantWrite(0, "abc", false, api.OK)
		b.wantSend(0, 128, piece(0, 0, "abc", false))
		b.wantWrite(0, "def", true, api.OK)
		b.wantReset(0, 9, api.OK)
		b.wantSend(0, 128, resets(0, 9, 3))
		b.wantNothing(7, 128)
		b.wantSend(8, 128, resets(0, 9, 3))
		b.feed(ack(2, 2))
		b.wantNothing(1000, 128)
		b.wantSent(0, false)
	})
	eachEnd(t, func(b *both) {
		b.wantWrite(0, "abc", true, api.OK)
		b.wantSend(0, 128, piece(0, 0, "abc", true))
		b.wantReset(0, 9, api.OK)
		b.wantSend(0, 128, resets(0, 9, 3))
		b.feed(ack(0, 0))
		b.wantSent(0, true)
		b.feed(ack(1, 1))
		b.wantNothing(1000, 128)
	})
}

// TestManyFrames is promise 13.3 of more pieces than the other end takes frames of one packet: the words set no bound.
func TestManyFrames(t *testing.T) {
	b := opened(t, false)
	var want []api.Frame
	whole := text(80)
	streams := []int64{0, 2, 4, 8, 12, 16, 20, 24, 28}
	for i := range 80 {
		var l []api.Frame
		for _, id := range streams {
			b.wantWrite(id, whole[i:i+1], false, api.OK)
			l = append(l, piece(id, int64(i), whole[i:i+1], false))
		}
		b.wantSend(0, 128, l...)
	}
	var told []api.Range
	for i := int64(79); i >= 49; i -= 2 {
		told = append(told, api.Range{Low: i, High: i})
	}
	told[15].Low = 0
	b.feed(ackRanges(told...)) // 50, 52 and so on up to 76 are lost
	for _, id := range streams {
		for i := 50; i <= 76; i += 2 {
			want = append(want, piece(id, int64(i), whole[i:i+1], false))
		}
	}
	if len(want) != 126 {
		t.Fatalf("%d frames", len(want))
	}
	b.wantSend(0, 1200, want...)
}
