package conn_test

import (
	"math/rand"
	"slices"
	"strings"
	"testing"

	"vizard/api"
	"vizard/frames"
)

// TestRecvOrder is promise 13.2 of what is told first: closed, then too short, then another name, whatever the first byte is.
func TestRecvOrder(t *testing.T) {
	ends := map[string]func() *both{
		"a client that waits": func() *both { return dialed(t) },
		"an open client":      func() *both { return opened(t, false) },
		"a new server":        func() *both { return accepted(t) },
		"an open server":      func() *both { return opened(t, true) },
	}
	for _, end := range ends {
		for kind := range 256 {
			b := end()
			first := string([]byte{byte(kind)})
			whole := packetOf("no key", byte(kind), name, 0, theirs)
			b.wantRecv(whole[:28], api.ErrShort)
			b.wantRecv(first, api.ErrShort)
			b.wantRecv("", api.ErrShort)
			b.wantRecv(first+"connect1"+sized(19), api.ErrShort)
			b.wantRecv(first+"connect1"+sized(20), api.ErrField)
			for i := 1; i < 9; i++ {
				b.wantRecv(damaged(whole, i, 0x80), api.ErrField)
			}
			if kind == 0 || kind > 3 {
				b.wantRecv(whole, api.ErrKind)
				b.wantRecv(whole[:29], api.ErrKind)
				b.wantRecv(first+name+sized(5000), api.ErrKind)
			}
			b.close(7)
			for _, s := range []string{"", first, whole[:28], damaged(whole, 3, 1), whole, helloOf(theirs), welcomeOf(nonce), b.dataPacket(0, "\x01")} {
				b.wantRecv(s, api.ErrClosed)
			}
		}
	}
}

// TestRecvKinds is promise 13.2 of each right packet, in each phase of both ends.
func TestRecvKinds(t *testing.T) {
	client, server := opened(t, false), opened(t, true)
	down, up := client.dataPacket(0, "\x01"), server.dataPacket(0, "\x01")
	b := dialed(t)
	b.wantRecv(helloOf(theirs), api.ErrState)
	b.wantRecv(down, api.ErrState)
	b.wantRecv(up, api.ErrState)
	b.wantState(1, 0)
	b.wantRecv(welcomeOf(nonce), api.OK)
	b.wantState(2, 0)
	b.wantRecv(welcomeOf(nonce), api.ErrOld)
	b.wantRecv(helloOf(theirs), api.ErrState)
	b.wantRecv(up, api.ErrTag)
	b.wantRecv(down, api.OK)
	for range 2 {
		b = accepted(t)
		b.wantRecv(welcomeOf(nonce), api.ErrState)
		b.wantRecv(down, api.ErrTag)
		b.wantRecv(up, api.OK)
		b.wantRecv(helloOf(theirs), api.OK)
		b.wantPacket(0, 128, welcomeOf(nonce))
	}
}

// TestHelloAgain is promise 13.2 of a hello once more: with the client's nonce the welcome is sent once more, with another one it is old.
func TestHelloAgain(t *testing.T) {
	k := keysOf(psk, theirs, nonce)
	for _, first := range []bool{false, true} {
		b := accepted(t)
		if first {
			b.wantPacket(0, 128, welcomeOf(nonce))
			b.wantNothing(0, 128)
		}
		for range 3 {
			b.wantRecv(helloOf(theirs), api.OK)
			b.wantRecv(helloOf(theirs), api.OK)
			b.wantPacket(0, 1200, welcomeOf(nonce))
			b.wantNothing(0, 1200)
		}
		b.wantRecv(helloOf(nonce), api.ErrOld)
		b.wantRecv(helloOf("123456789012345x"), api.ErrOld)
		whole := helloOf(theirs)
		for i := 9; i < len(whole); i++ {
			b.wantRecv(damaged(whole, i, 1), api.ErrTag)
		}
		b.wantRecv(whole[:29], api.ErrTag)
		b.wantRecv(whole+"x", api.ErrTag)
		b.wantRecv(packetOf(k.hello, 1, name, 1, theirs), api.ErrField)
		b.wantRecv(packetOf(k.hello, 1, name, 0, theirs[:15]), api.ErrField)
		b.wantRecv(packetOf(k.hello, 1, name, 0, theirs+"7"), api.ErrField)
		b.wantRecv(packetOf(k.hello, 1, name, 0, nonce+"q"), api.ErrField)
		b.wantRecv(packetOf(k.welcome, 1, name, 0, theirs), api.ErrTag)
		b.wantRecv(packetOf(keysOf("kez", "", "").hello, 1, name, 0, theirs), api.ErrTag)
		b.wantRecv(packetOf(k.hello, 1, "connect1", 0, theirs), api.ErrField)
		b.wantNothing(9, 1200) // none of these asks for a welcome
		b.wantState(2, 0)
	}
}

// TestWelcome is promise 13.2 of welcomes that are not right: the client waits on, and takes the right one then.
func TestWelcome(t *testing.T) {
	k := keysOf(psk, theirs, nonce)
	b := dialed(t)
	whole := welcomeOf(nonce)
	for i := 9; i < len(whole); i++ {
		for bit := range 8 {
			b.wantRecv(damaged(whole, i, 1<<bit), api.ErrTag)
		}
	}
	b.wantRecv(whole[:28], api.ErrShort)
	b.wantRecv(whole[:29], api.ErrTag)
	b.wantRecv(whole+"x", api.ErrTag)
	for _, n := range []uint32{1, 256, 1 << 16, 1 << 24, 1<<32 - 1} {
		b.wantRecv(packetOf(k.welcome, 2, name, n, nonce), api.ErrField)
	}
	for _, size := range []int{0, 15, 17, 1171} {
		b.wantRecv(packetOf(k.welcome, 2, name, 0, sized(size)), api.ErrField)
	}
	b.wantRecv(packetOf(k.hello, 2, name, 0, nonce), api.ErrTag)
	b.wantRecv(packetOf(k.down, 2, name, 0, nonce), api.ErrTag)
	b.wantRecv(packetOf(keysOf(psk, nonce, "").welcome, 2, name, 0, nonce), api.ErrTag)
	b.wantRecv(packetOf(keysOf("kez", theirs, "").welcome, 2, name, 0, nonce), api.ErrTag)
	b.wantRecv(packetOf(k.welcome, 2, "connect1", 0, nonce), api.ErrField)
	b.wantState(1, 0)
	b.wantPacket(0, 128, helloOf(theirs))
	b.wantRecv(whole, api.OK)
	b.wantState(2, 0)
	for range 2 {
		b.wantRecv(whole, api.ErrOld)
		b.wantRecv(welcomeOf(theirs), api.ErrOld)
		b.wantRecv(damaged(whole, 20, 1), api.ErrOld)
		b.wantRecv(packetOf(k.welcome, 2, name, 1, nonce), api.ErrOld)
		b.wantRecv(whole[:28], api.ErrShort)
	}
	b.wantNothing(100, 1200) // it greets no more
	b.feed(ping)             // by the first welcome's nonce
}

// TestWelcomeNonces is promise 13.2: the keys of data hang on both nonces.
func TestWelcomeNonces(t *testing.T) {
	for _, own := range []string{nonce, theirs, strings.Repeat("\x00", 16), "ABCDEFGHIJKLMNOP"} {
		b := dialed(t)
		b.wantRecv(welcomeOf(own), api.OK)
		b.wantPush("x", api.OK)
		k := keysOf(psk, theirs, own)
		b.wantPacket(0, 128, packetOf(k.up, 3, name, 0, padded([]api.Frame{dgram("x")}, 128)))
		b.wantRecv(packetOf(k.up, 3, name, 0, "\x01"), api.ErrTag)
		b.wantRecv(packetOf(k.down, 3, name, 0, "\x01"), api.OK)
	}
}

// TestDataOnce is promise 13.2 of data that comes twice, late, and older than the window.
func TestDataOnce(t *testing.T) {
	eachEnd(t, func(b *both) {
		frame := func(n uint32) string { return b.dataPacket(n, "\x30\x01"+string([]byte{byte(n)})) }
		b.wantRecv(frame(100), api.OK)
		for range 2 {
			b.wantRecv(frame(100), api.ErrOld)
		}
		b.wantRecv(frame(36), api.ErrOld) // 64 below
		b.wantRecv(frame(35), api.ErrOld)
		b.wantRecv(frame(0), api.ErrOld)
		b.wantRecv(frame(37), api.OK)
		b.wantRecv(frame(37), api.ErrOld)
		b.wantRecv(frame(99), api.OK)
		b.wantRecv(frame(102), api.OK)
		b.wantRecv(frame(38), api.ErrOld)
		b.wantRecv(frame(101), api.OK)
		b.wantRecv(frame(100), api.ErrOld)
		b.wantRecv(frame(1<<32-1), api.OK)
		b.wantRecv(frame(1<<32-1), api.ErrOld)
		b.wantRecv(frame(101), api.ErrOld)
		b.wantRecv(frame(1<<32-64), api.OK)
		b.wantRecv(frame(1<<32-65), api.ErrOld)
		for _, n := range []byte{100, 37, 99, 102, 101, 255, 192} {
			b.wantPull(string([]byte{n}), true)
		}
		b.wantPull("", false)
		b.wantSend(0, 128, ackRanges(api.Range{Low: 1<<32 - 1, High: 1<<32 - 1}, api.Range{Low: 1<<32 - 64, High: 1<<32 - 64}, api.Range{Low: 99, High: 102}, api.Range{Low: 37, High: 37}))
	})
}

// TestDataDamaged is promise 13.2 of a damaged byte anywhere: nothing is taken, the number may still come; where it came, that is told first.
func TestDataDamaged(t *testing.T) {
	eachEnd(t, func(b *both) {
		whole := b.dataPacket(5, padded([]api.Frame{piece(0, 0, "abc", true), dgram("d")}, 64))
		for i := range whole {
			want := api.ErrTag
			if i >= 1 && i < 9 {
				want = api.ErrField
			}
			if i > 0 {
				b.wantRecv(damaged(whole, i, 0x10), want)
			}
		}
		b.wantRecv(damaged(whole, 0, 4), api.ErrKind)
		b.wantRecv(damaged(whole, 0, 1), map[bool]api.Errno{true: api.ErrState, false: api.ErrOld}[b.p.server])
		b.wantRecv(damaged(whole, 0, 2), map[bool]api.Errno{true: api.ErrTag, false: api.ErrState}[b.p.server])
		b.wantRecv(whole[:28], api.ErrShort)
		for n := 29; n < len(whole); n++ {
			b.wantRecv(whole[:n], api.ErrTag)
		}
		b.wantRecv(whole+"\x00", api.ErrTag)
		b.wantRead(0, 9, "")
		b.wantPull("", false)
		b.wantStreams()
		b.wantNothing(0, 128) // nor is it told as come
		b.wantRecv(whole, api.OK)
		b.wantRecv(damaged(whole, 20, 1), api.ErrOld)
		b.wantRecv(damaged(whole, 12, 1), api.ErrTag) // the number 4
		b.wantRecv(damaged(whole, len(whole)-1, 1), api.ErrOld)
		b.wantRead(0, 9, "abc")
		b.wantPull("d", true)
		b.wantSend(0, 128, ack(5, 5))
	})
}

// TestOwnPackets is promise 13.2: what an end has sent itself is not taken.
func TestOwnPackets(t *testing.T) {
	eachEnd(t, func(b *both) {
		b.wantPush("x", api.OK)
		own := b.wantSend(0, 128, dgram("x"))
		b.wantRecv(own, api.ErrTag)
		b.wantPull("", false)
	})
}

// TestEmptyData is promise 13.2 of data without a frame: the number came, and that is all.
func TestEmptyData(t *testing.T) {
	eachEnd(t, func(b *both) {
		b.wantRecv(b.dataPacket(0, ""), api.OK)
		b.wantRecv(b.dataPacket(0, ""), api.ErrOld)
		b.wantRecv(b.dataPacket(1, strings.Repeat("\x00", 1171)), api.OK)
		b.wantNothing(0, 128)
		b.far = 3
		b.feed(ping)
		b.wantSend(0, 128, ackRanges(api.Range{Low: 3, High: 3}, api.Range{Low: 0, High: 1}))
		b.wantStreams()
		b.wantState(2, 0)
	})
}

// TestNoFrames is promise 13.2 of bytes that are sealed rightly and are no frames: Parse's error, closed with CodeProto, and nothing of them was taken.
func TestNoFrames(t *testing.T) {
	many := strings.Repeat("\x01", 65)
	for data, want := range map[string]api.Errno{
		"\x03":                             api.ErrKind,
		"\x40":                             api.ErrShort,
		"\x02\x00":                         api.ErrField,
		"\x08\x04\x00\x02":                 api.ErrField,
		"\x08\x04\x00":                     api.ErrShort,
		"\x30\x05abcd":                     api.ErrShort,
		"\x02\x01\x01\x02":                 api.ErrField,
		"\x02\x11":                         api.ErrField,
		many:                               api.ErrLong,
		"\x30\x01a\x08\x00\x00\x00\x02b":   api.ErrShort,
		"\x08\x00\x00\x01\x01x\x05":        api.ErrKind,
		"\x1c\x05\x03":                     api.ErrKind,
		"\x08\x00\xff" + sized(7) + "\x00": api.ErrShort,
		"\x08\x00\xff\xff\xff\xff\xff\xff\xff\xff\x00\x01x":        api.ErrRange,
		"\x30\x44\xb1" + sized(1201):                               api.ErrLong,
		"\x02\x02\x05\x05\x04\x04":                                 api.ErrField,
		"\x04\x00\x00":                                             api.ErrShort,
		"\x00\x00\x00\x00\x00\x00\x00\x00\x00\x00\x00\x00\x1d\x00": api.ErrKind,
	} {
		eachEnd(t, func(b *both) {
			if l, e := frames.Parse(data); e != want || len(l) > 0 {
				t.Fatalf("Parse of %s is %d", short(data), e)
			}
			b.wantRecv(b.dataPacket(0, data), want)
			b.wantState(3, 0x0a)
			b.wantStreams()
			b.wantPull("", false)
			b.wantRead(0, 9, "")
			b.wantRecv(b.dataPacket(1, "\x01"), api.ErrClosed)
			b.wantGoodbye(0x0a)
		})
	}
}

// TestMostFrames is promise 13.2 of as many frames as a packet may have, with more of FPad.
func TestMostFrames(t *testing.T) {
	eachEnd(t, func(b *both) {
		b.wantRecv(b.dataPacket(0, strings.Repeat("\x01\x00", 64)), api.OK)
		b.wantSend(0, 128, ack(0, 0))
		b.wantRecv(b.dataPacket(1, strings.Repeat("\x01\x00", 65)), api.ErrLong)
		b.wantState(3, 0x0a)
	})
}

// TestAnswers is promise 13.2 of which frames ask for an answer: those alone have an FAck sent, once, with all that came.
func TestAnswers(t *testing.T) {
	eachEnd(t, func(b *both) {
		reads, writes := int64(2), int64(3)
		if !b.p.server {
			reads, writes = 3, 2
		}
		b.wantPush("x", api.OK)
		b.wantSend(0, 128, dgram("x"))
		b.feed(ack(0, 0))
		b.wantNothing(0, 128)
		b.feed(api.Frame{Kind: api.FPad})
		b.wantNothing(0, 128)
		last := int64(1)
		for _, f := range []api.Frame{ping, dgram(""), dgram("abc"), piece(reads, 0, "", false), piece(0, 3, "x", true), limit(writes, 9), limit(0, 5000), resets(reads, 7, 4)} {
			b.feed(f)
			last++
			b.wantSend(0, 128, ack(0, last))
			b.wantNothing(0, 128)
			for _, l := range [][]api.Frame{{ack(0, 0), f}, {f, ack(0, 0)}} { // also beside one that does not ask
				b.feed(l...)
				last++
				b.wantSend(0, 128, ack(0, last))
				b.wantNothing(0, 128)
			}
		}
		b.feed(ping)
		b.feed(ack(0, 0)) // does not take it back
		last += 2
		b.wantSend(0, 128, ack(0, last))
		b.wantNothing(100, 128)
	})
}

// TestAckWrong is promise 13.2 of an FAck that tells what was never sent, with what stands ahead of it and behind it.
func TestAckWrong(t *testing.T) {
	eachEnd(t, func(b *both) {
		b.fault(api.ErrRange, 0x0a, ack(0, 0)) // nothing was sent
	})
	for _, f := range []api.Frame{ack(2, 2), ack(0, 2), ack(most, most), ack(0, most), ackRanges(api.Range{Low: 3, High: 3}, api.Range{Low: 0, High: 1})} {
		eachEnd(t, func(b *both) {
			for i := range 2 {
				b.wantWrite(0, "ab", i == 1, api.OK)
				b.wantSend(0, 128, piece(0, int64(2*i), "ab", i == 1))
			}
			b.fault(api.ErrRange, 0x0a, piece(0, 0, "came", false), f, piece(0, 4, "not", false), piece(4, 0, "not", false), dgram("not"))
			b.wantSent(0, false)
			b.wantRead(0, 99, "came")
			b.wantStreams(0)
			b.wantPull("", false)
		})
	}
	eachEnd(t, func(b *both) { // one that does not ask for an answer is none that was sent, for the ledger knows nothing of it
		b.wantPush("x", api.OK)
		b.wantSend(0, 128, dgram("x"))
		b.feed(ping)
		b.wantSend(0, 128, ack(0, 0))
		b.feed(ack(0, 0))
		b.fault(api.ErrRange, 0x0a, ack(0, 1))
	})
	eachEnd(t, func(b *both) { // but if a greater one asks, it may be told
		b.feed(ping)
		b.wantSend(0, 128, ack(0, 0))
		b.wantPush("x", api.OK)
		b.wantSend(0, 128, dgram("x"))
		b.feed(ack(0, 0))
		b.feed(ack(0, 1))
		b.wantState(2, 0)
	})
}

// TestAckAgain is promise 13.2 of an FAck of what was told already, and of what was given up: neither changes anything.
func TestAckAgain(t *testing.T) {
	eachEnd(t, func(b *both) {
		for i := range 5 {
			b.wantWrite(0, "abcde"[i:i+1], false, api.OK)
			b.wantSend(0, 128, piece(0, int64(i), "abcde"[i:i+1], false))
		}
		b.wantWrite(0, "", true, api.OK)
		b.feed(ack(4, 4)) // 0 and 1 are lost
		for range 3 {
			b.feed(ack(4, 4))
			b.feed(ack(0, 1)) // they were given up
		}
		b.wantNothing(0, 127)
		b.wantSend(0, 128, ackNone(b, piece(0, 0, "ab", false), piece(0, 5, "", true))...)
		b.feed(ack(0, 4))
		b.wantSent(0, false)
		b.feed(ack(5, 5))
		b.wantSent(0, true)
		b.feed(ack(0, 5))
		b.wantSent(0, true)
		b.wantNothing(1000, 128)
	})
}

// ackNone is frames without an FAck ahead of them: of a packet that is sent where nothing asked for an answer.
func ackNone(b *both, l ...api.Frame) []api.Frame {
	b.t.Helper()
	if b.p.ack {
		b.t.Fatal("something asked for an answer")
	}
	return l
}

// TestReadable is promise 13.2 of FStream and FReset on each stream that an end may read, and on all others.
func TestReadable(t *testing.T) {
	for _, id := range manyIds {
		if id < 0 || id > most {
			continue // no frame has it
		}
		eachEnd(t, func(b *both) {
			c := opened(t, b.p.server)
			d := opened(t, b.p.server)
			e := opened(t, b.p.server)
			if !mayRead(b.p.server, id) {
				b.fault(api.ErrRange, 0x0a, piece(id, 0, "abc", true))
				c.fault(api.ErrRange, 0x0a, resets(id, 5, 3))
				d.fault(api.ErrRange, 0x0a, piece(id, 9000, "beyond the limit", false))
				e.fault(api.ErrRange, 0x0a, resets(id, 5, 9000))
				for _, end := range []*both{b, c, d, e} {
					end.wantRead(id, 9, "")
					end.wantHow(id, 0, 0)
					end.wantStreams()
				}
				return
			}
			b.feed(piece(id, 0, "abc", true))
			b.wantStreams(id)
			b.wantHow(id, 0, 0)
			b.wantRead(id, 2, "ab")
			b.wantHow(id, 0, 2)
			b.wantRead(id, 2, "c")
			b.wantHow(id, 1, 3)
			b.wantRead(id, 2, "")
			c.feed(resets(id, 5, 3))
			c.wantStreams(id)
			c.wantHow(id, 2, 0)
			c.wantRead(id, 9, "")
			d.feed(piece(id, 7, "", false))
			d.wantStreams(id)
			d.wantHow(id, 0, 0)
			e.feed(piece(id, 0, "abc", false))
			e.wantRead(id, 1, "a")
			e.feed(resets(id, most, 3))
			e.wantRead(id, 9, "")
			e.wantHow(id, 2, 1)
			for _, end := range []*both{b, c, d, e} {
				end.wantState(2, 0)
			}
		})
	}
}

// TestPieces is promise 13.2 of pieces beyond the limit and of ends that do not fit, each with its code.
func TestPieces(t *testing.T) {
	big := text(1100)
	rows := []struct {
		ahead []api.Frame
		last  api.Frame
		e     api.Errno
		code  int64
	}{
		{nil, piece(0, 4096, "", true), api.OK, 0},
		{nil, piece(0, 4095, "x", true), api.OK, 0},
		{nil, piece(0, 4096, "x", false), api.ErrFlow, 3},
		{nil, piece(0, 4097, "", false), api.ErrFlow, 3},
		{nil, piece(0, 2997, big, false), api.ErrFlow, 3},
		{nil, piece(0, 2996, big, false), api.OK, 0},
		{nil, piece(0, most, "", false), api.ErrFlow, 3},
		{nil, piece(0, most-1, "x", true), api.ErrFlow, 3},
		{nil, resets(0, 1, 4096), api.OK, 0},
		{nil, resets(0, 1, 4097), api.ErrFlow, 3},
		{nil, resets(0, 1, most), api.ErrFlow, 3},
		{[]api.Frame{piece(0, 0, "abc", true)}, piece(0, 3, "", true), api.OK, 0},
		{[]api.Frame{piece(0, 0, "abc", true)}, piece(0, 3, "x", false), api.ErrFinal, 6},
		{[]api.Frame{piece(0, 0, "abc", true)}, piece(0, 0, "ab", true), api.ErrFinal, 6},
		{[]api.Frame{piece(0, 0, "abc", true)}, piece(0, 4, "", false), api.ErrFinal, 6},
		{[]api.Frame{piece(0, 0, "abc", true)}, piece(0, 4097, "", false), api.ErrFlow, 3},
		{[]api.Frame{piece(0, 0, "abc", false)}, piece(0, 0, "ab", true), api.ErrFinal, 6},
		{[]api.Frame{piece(0, 0, "abc", true)}, resets(0, 1, 3), api.OK, 0},
		{[]api.Frame{piece(0, 0, "abc", true)}, resets(0, 1, 2), api.ErrFinal, 6},
		{[]api.Frame{piece(0, 0, "abc", true)}, resets(0, 1, 4), api.ErrFinal, 6},
		{[]api.Frame{piece(0, 0, "abc", false)}, resets(0, 1, 2), api.ErrFinal, 6},
		{[]api.Frame{resets(0, 1, 3)}, resets(0, 2, 3), api.OK, 0},
		{[]api.Frame{resets(0, 1, 3)}, resets(0, 1, 4), api.ErrFinal, 6},
		{[]api.Frame{resets(0, 1, 3)}, piece(0, 0, "abc", true), api.OK, 0},
		{[]api.Frame{resets(0, 1, 3)}, piece(0, 0, "abcd", false), api.ErrFinal, 6},
		{[]api.Frame{resets(0, 1, 3)}, piece(0, 4096, "a", false), api.ErrFlow, 3},
	}
	for _, row := range rows {
		for _, id := range allStreams {
			for _, apart := range []bool{false, true} {
				eachEnd(t, func(b *both) {
					if mayRead(b.p.server, id) {
						b.onStream(id, row.ahead, row.last, row.e, row.code, apart)
					}
				})
			}
		}
	}
}

// onStream takes frames of one stream, in one packet or in packets of their own, of which the last is what is asked about.
func (b *both) onStream(id int64, ahead []api.Frame, last api.Frame, e api.Errno, code int64, apart bool) {
	b.t.Helper()
	ahead = slices.Clone(ahead)
	for i := range ahead {
		ahead[i].Id = id
	}
	last.Id = id
	if apart {
		for _, f := range ahead {
			b.feed(f)
		}
		ahead = nil
	}
	behind := dgram("behind")
	l := append(ahead, last, behind)
	if e == api.OK {
		b.feed(l...)
		b.wantState(2, 0)
		b.wantStreams(id)
		b.wantPull("behind", true)
		return
	}
	b.fault(e, code, l...)
	b.wantPull("", false)
}

// TestFlowGrows is promise 13.2: what was read may be filled up again, with the limit told or not.
func TestFlowGrows(t *testing.T) {
	eachEnd(t, func(b *both) {
		whole := text(5 * 1024)
		for i := range 4 {
			b.feed(piece(8, int64(1024*i), whole[1024*i:1024*(i+1)], false))
		}
		b.wantRead(8, 1, whole[:1])
		b.feed(piece(8, 4096, whole[4096:4097], false))
		b.wantRead(8, 5000, whole[1:4097])
		b.feed(piece(8, 8193, "", false))
		b.fault(api.ErrFlow, 3, piece(8, 8193, "x", false))
		b.wantHow(8, 0, 4097)
	})
}

// TestLimits is promise 13.2 of FLimit on each stream that an end may write, and on all others; only a greater one counts.
func TestLimits(t *testing.T) {
	whole := text(8000)
	for _, id := range manyIds {
		if id < 0 || id > most {
			continue
		}
		for _, off := range []int64{0, 4095, 4096, 4097, 4196, most} {
			eachEnd(t, func(b *both) {
				if !mayWrite(b.p.server, id) {
					b.fault(api.ErrRange, 0x0a, limit(id, off), dgram("behind"))
					b.wantPull("", false)
					return
				}
				b.wantWrite(id, whole, false, api.OK)
				b.feed(limit(id, off))
				b.feed(limit(id, 4099), limit(id, 7), dgram("behind"))
				b.wantPull("behind", true)
				b.far = 2
				upto := int(max(4099, min(off, 8000)))
				at := 0
				for at < upto {
					l := []api.Frame{}
					size := 1151
					if at == 0 {
						l = append(l, ack(0, 1))
						size -= 4
					}
					end := min(at+size, upto)
					l = append(l, piece(id, int64(at), whole[at:end], false))
					b.wantSend(0, 1200, l...)
					at = end
				}
				b.wantNothing(0, 1200)
			})
		}
	}
}

// TestDatagramsCome is promises 13.2 and 13.5 of 32 datagrams that wait to be pulled, and more, which are dropped, though they are told as come.
func TestDatagramsCome(t *testing.T) {
	eachEnd(t, func(b *both) {
		b.wantPull("", false)
		for i := range 33 {
			b.feed(dgram(string([]byte{byte(i)})))
		}
		b.wantSend(0, 128, ack(0, 32))
		b.feed(dgram("dropped"), dgram("too"))
		b.wantSend(0, 128, ack(0, 33))
		b.wantPull("\x00", true)
		b.feed(dgram("one"), dgram("dropped"))
		b.wantSend(0, 128, ack(0, 34))
		for i := 1; i < 32; i++ {
			b.wantPull(string([]byte{byte(i)}), true)
		}
		b.wantPull("one", true)
		b.wantPull("", false)
		var l []api.Frame
		for range 33 {
			l = append(l, dgram(""))
		}
		b.feed(l...)
		for range 32 {
			b.wantPull("", true)
		}
		b.wantPull("", false)
		b.feed(dgram(text(1150))) // more than Push takes
		b.wantPull(text(1150), true)
	})
}

// TestCloseComes is promise 13.2 of an FClose with frames ahead of it and behind it: what follows is passed over, also what would be a fault.
func TestCloseComes(t *testing.T) {
	for _, code := range []int64{0, 1, 0x0a, 0x100, most} {
		for _, behind := range [][]api.Frame{nil, {ping}, {piece(0, 3, "not", true)}, {ack(9, 9)}, {piece(1, 0, "", false)}, {dgram("not")}, {closes(77)}} {
			eachEnd(t, func(b *both) {
				b.wantWrite(0, "never sent", true, api.OK)
				b.wantPush("never sent", api.OK)
				b.feed(append([]api.Frame{piece(0, 0, "abc", false), dgram("d"), closes(code)}, behind...)...)
				b.wantState(3, code)
				b.wantNothing(0, 128)
				b.wantNothing(100, 1200)
				b.wantStreams(0)
				b.wantRead(0, 99, "abc")
				b.wantPull("d", true)
				b.wantPull("", false)
				b.wantHow(0, 0, 3)
				b.close(5)
				b.wantState(3, code)
				b.wantNothing(100, 1200)
				b.wantRecv(b.dataPacket(9, "\x01"), api.ErrClosed)
				b.wantRecv(helloOf(theirs), api.ErrClosed)
			})
		}
	}
	eachEnd(t, func(b *both) { // behind a fault no FClose is taken
		b.fault(api.ErrRange, 0x0a, limit(1, 9), closes(5))
	})
	b := accepted(t) // a server that has not welcomed says nothing any more
	b.feed(closes(6))
	b.wantState(3, 6)
	b.wantNothing(0, 128)
}

// TestFaultBehindFrames is promise 13.2: of a packet with a fault what stands ahead of it was taken, and nothing behind it.
func TestFaultBehindFrames(t *testing.T) {
	for _, fault := range []struct {
		f    api.Frame
		e    api.Errno
		code int64
	}{
		{ack(9, 9), api.ErrRange, 0x0a},
		{piece(5, 0, "x", false), api.ErrRange, 0x0a},
		{resets(32, 0, 0), api.ErrRange, 0x0a},
		{limit(1, 5000), api.ErrRange, 0x0a},
		{piece(0, 4090, "too far", false), api.ErrFlow, 3},
		{resets(0, 0, 1), api.ErrFinal, 6},
	} {
		eachEnd(t, func(b *both) {
			b.wantWrite(4, "hi", true, api.OK)
			b.wantSend(0, 128, piece(4, 0, "hi", true))
			b.fault(fault.e, fault.code, ack(0, 0), piece(0, 0, "abc", false), resets(8, 1, 1), dgram("d"), fault.f, piece(12, 0, "x", false), dgram("not"), closes(99))
			b.wantSent(4, true)
			b.wantStreams(0, 8)
			b.wantHow(8, 2, 0)
			b.wantRead(0, 9, "abc")
			b.wantPull("d", true)
			b.wantPull("", false)
		})
	}
}

// TestRecvBytes is rule R1 of promise 13.2: packets of bytes by chance, and data of frames by chance, rightly sealed, are told like the plain end tells them.
func TestRecvBytes(t *testing.T) {
	t.Parallel()
	r := rand.New(rand.NewSource(13))
	for range 3000 {
		b := opened(t, r.Intn(2) == 0)
		for i := range 3 {
			raw := make([]byte, r.Intn(60))
			r.Read(raw)
			kinds := []byte{0, 1, 2, 4, 8, 0x11, 0x1c, 0x30}
			for j := range raw {
				switch r.Intn(3) {
				case 0:
					raw[j] = kinds[r.Intn(8)]
				case 1:
					raw[j] &= 0x07
				}
			}
			b.recv(b.dataPacket(uint32(i), string(raw)))
			b.recv(string(raw))
			b.recv(string([]byte{byte(r.Intn(5))}) + name + string(raw))
		}
		b.send(0, 128)
	}
}

// TestFrameRows is promise 13.2 of frames of each kind, right ones and faults, alone, in pairs and in threes behind one another, held against the plain end.
func TestFrameRows(t *testing.T) {
	t.Parallel()
	kinds := []api.Frame{
		{Kind: api.FPad}, ping, ack(0, 0), ack(1, 1), ack(2, 2),
		piece(0, 0, "ab", false), piece(0, 1, "bc", true), piece(5, 0, "x", false),
		resets(0, 7, 3), resets(0, 7, 4097), limit(0, 5000), limit(1, 5000),
		dgram("d"), closes(9),
	}
	n := len(kinds)
	for row := range n * n * n {
		b := opened(t, row%2 == 0)
		b.wantWrite(0, "hi", true, api.OK)
		b.wantSend(0, 128, piece(0, 0, "hi", true))
		b.wantPush("d", api.OK)
		b.wantSend(0, 128, dgram("d"))
		l := []api.Frame{kinds[row%n], kinds[row/n%n], kinds[row/n/n]}
		s, _ := frames.Write(l)
		b.recv(b.dataPacket(0, s))
		b.read(0, 2)
		b.pull()
		b.send(8, 128)
		b.send(8, 128)
	}
}
