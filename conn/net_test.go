package conn_test

import (
	"math/rand"
	"slices"
	"strconv"
	"strings"
	"testing"

	"vizard/api"
	"vizard/conn"
	"vizard/frames"
)

// site is an end of a connection with what is to be written there, and what was read.
type site struct {
	t      *testing.T
	c      *conn.Conn
	server bool
	plan   map[int64]string // all that is to be written, with an end behind it
	wrote  map[int64]int    // how much of it was
	read   map[int64]string
	pushed map[string]int
	pulled map[string]int
	mail   []string // packets that are on their way to it
	held   []string // packets of its own that are not yet on their way
}

func newSite(t *testing.T, server bool, r *rand.Rand, longest int) *site {
	t.Helper()
	var c *conn.Conn
	var e api.Errno
	if server {
		c, e = conn.Accept(psk, name, theirs, nonce)
	} else {
		c, e = conn.Dial(psk, name, theirs)
	}
	if e != api.OK {
		t.Fatalf("error %d", e)
	}
	s := &site{t: t, c: c, server: server, plan: map[int64]string{}, wrote: map[int64]int{}, read: map[int64]string{}, pushed: map[string]int{}, pulled: map[string]int{}}
	for _, id := range allStreams {
		if mayWrite(server, id) && (id == 0 || r.Intn(3) == 0) {
			raw := make([]byte, r.Intn(longest))
			r.Read(raw)
			s.plan[id] = string(raw)
			s.wrote[id] = -1 // the end is to be written, too
		}
	}
	return s
}

// hand writes what is next of the plan, as much as is taken.
func (s *site) hand(r *rand.Rand) {
	s.t.Helper()
	for _, id := range allStreams {
		whole, has := s.plan[id]
		at := max(s.wrote[id], 0)
		if !has || s.wrote[id] > len(whole) {
			continue
		}
		end := min(at+r.Intn(2000), len(whole))
		fin := end == len(whole) && r.Intn(2) == 0
		switch e := s.c.Write(id, whole[at:end], fin); {
		case e == api.OK && fin:
			s.wrote[id] = len(whole) + 1
		case e == api.OK:
			s.wrote[id] = end
		case e != api.ErrFull && e != api.ErrClosed && e != api.ErrState:
			s.t.Fatalf("Write is %d", e)
		}
	}
}

// drain reads and pulls what came, and holds it against what the other site has written and pushed.
func (s *site) drain(r *rand.Rand, other *site) {
	s.t.Helper()
	for _, id := range allStreams {
		s.read[id] += s.c.Read(id, r.Intn(3000))
		if !strings.HasPrefix(other.plan[id], s.read[id]) || len(s.read[id]) > max(other.wrote[id], 0) {
			s.t.Fatalf("what was read of %d is no beginning: %d bytes of %d", id, len(s.read[id]), other.wrote[id])
		}
		if how, n := s.c.How(id); n != int64(len(s.read[id])) || how == 1 && s.read[id] != other.plan[id] {
			s.t.Fatalf("How(%d) is %d, %d", id, how, n)
		}
	}
	for s.pullOne(other) {
	}
}

func (s *site) pullOne(other *site) bool {
	s.t.Helper()
	d, ok := s.c.Pull()
	if !ok {
		return false
	}
	s.pulled[d]++
	if s.pulled[d] > 1 || other.pushed[d] != 1 {
		s.t.Fatalf("%q was pushed %d times, and pulled %d times", d, other.pushed[d], s.pulled[d])
	}
	return true
}

// pushNew pushes a datagram that is like no other one.
func (s *site) pushNew(more string) {
	s.t.Helper()
	d := strconv.Itoa(len(s.pushed)) + " " + more
	switch e := s.c.Push(d); e {
	case api.OK:
		s.pushed[d] = 1
	case api.ErrFull, api.ErrClosed:
	default:
		s.t.Fatalf("Push is %d", e)
	}
}

// net is how packets fare, each of so many in a hundred.
type net struct {
	lost, twice, late, damaged int
	asking                     bool // packets that ask for no answer go on their way when one that asks is sent
}

// asks tells whether a packet of data asks for an answer.
func asks(server bool, packet string) bool {
	if packet[0] != 3 {
		return true
	}
	k := keysOf(psk, theirs, nonce)
	secret := k.up
	if server {
		secret = k.down
	}
	data, _ := dataOf(secret, packet)
	l, _ := frames.Parse(data)
	return slices.ContainsFunc(l, frames.Elicits)
}

// carry lays a packet of one site's on its way to the other one, if it isn't lost.
func (n net) carry(r *rand.Rand, from, to *site, packet string) {
	from.held = append(from.held, packet)
	if n.asking && !asks(from.server, packet) {
		return
	}
	for _, packet := range from.held {
		if r.Intn(100) < n.lost {
			continue
		}
		to.mail = append(to.mail, packet)
		if r.Intn(100) < n.twice {
			to.mail = append(to.mail, packet)
		}
	}
	from.held = nil
}

// arrive lets a site take the packets that are not late.
func (n net) arrive(r *rand.Rand, s *site) {
	s.t.Helper()
	var late []string
	for _, packet := range s.mail {
		if r.Intn(100) < n.late {
			late = append(late, packet)
			continue
		}
		if r.Intn(100) < n.damaged {
			wrong := damaged(packet, r.Intn(len(packet)), byte(1+r.Intn(255)))
			if e := s.c.Recv(0, wrong); e == api.OK {
				s.t.Fatal("a damaged packet was taken")
			}
		}
		if r.Intn(100) >= n.damaged { // else the damaged one came in its place
			s.c.Recv(0, packet)
		}
	}
	s.mail = late
}

// tick is one tick at both ends.
func (n net) tick(r *rand.Rand, now int64, a, b *site, size int) {
	for _, way := range [][2]*site{{a, b}, {b, a}} {
		from, to := way[0], way[1]
		from.hand(r)
		if r.Intn(4) == 0 || n.asking {
			from.pushNew(text(r.Intn(20)))
		}
		if packet, ok := from.c.Send(now, size); ok {
			if len(packet) != 45 && len(packet) != size {
				from.t.Fatalf("a packet of %d bytes, not of %d", len(packet), size)
			}
			n.carry(r, from, to, packet)
		}
		n.arrive(r, to)
		to.drain(r, from)
	}
}

// whole tells whether all that was to be written has been read on the other side.
func whole(from, to *site) bool {
	for id, all := range from.plan {
		if how, _ := to.c.How(id); to.read[id] != all || how != 1 || !from.c.Sent(id) {
			return false
		}
	}
	return true
}

// wantWhole runs two sites until all is there.
func wantWhole(t *testing.T, n net, seed int64, longest, size int) {
	t.Helper()
	r := rand.New(rand.NewSource(seed))
	a, b := newSite(t, false, r, longest), newSite(t, true, r, longest)
	for now := range int64(20000) {
		if whole(a, b) && whole(b, a) {
			return
		}
		n.tick(r, now, a, b, size)
	}
	phase, code := a.c.State()
	other, otherCode := b.c.State()
	t.Fatalf("seed %d: not all is there; the phases are %d (%d) and %d (%d)", seed, phase, code, other, otherCode)
}

// TestWhole is promise 13.7, with more: a text comes whole, both ways at once, whatever packets are lost, come twice or damaged, where each comes at once.
func TestWhole(t *testing.T) {
	t.Parallel()
	for i, n := range []net{{}, {lost: 10}, {lost: 40}, {twice: 30}, {damaged: 30}, {lost: 20, twice: 20, damaged: 20}, {lost: 60}} {
		for seed := range int64(3) {
			wantWhole(t, n, int64(100*i)+seed, 12000, 1200)
			wantWhole(t, n, int64(100*i)+seed+50, 1500, 128+int(seed)*200)
		}
	}
}

// TestWholeLate is promise 13.7 of packets that come late as well, where those that ask for no answer come only behind one that asks: for
// by the chapter's words an end is closed by an FAck that tells such a one, if none that asks was sent behind it.
func TestWholeLate(t *testing.T) {
	t.Parallel()
	for i, n := range []net{{late: 50}, {late: 90}, {lost: 20, late: 50, twice: 20, damaged: 20}} {
		n.asking = true
		for seed := range int64(3) {
			wantWhole(t, n, int64(100*i)+seed, 9000, 1200)
			wantWhole(t, n, int64(100*i)+seed+50, 1500, 400)
		}
	}
}

// TestBeginnings is promise 13.7 in nets of all kinds: what is read is a beginning of what was written, also where an end is closed, or streams are reset.
func TestBeginnings(t *testing.T) {
	t.Parallel()
	for seed := range int64(60) {
		r := rand.New(rand.NewSource(seed))
		a, b := newSite(t, false, r, 9000), newSite(t, true, r, 9000)
		n := net{lost: r.Intn(50), twice: r.Intn(50), late: r.Intn(95), damaged: r.Intn(30)}
		now := int64(0)
		for range 150 {
			now += int64(r.Intn(4))
			size := 128 + r.Intn(1073)
			n.tick(r, now, a, b, size)
			s := a
			if r.Intn(2) == 0 {
				s = b
			}
			if r.Intn(60) == 0 {
				s.c.Reset(allStreams[r.Intn(10)], int64(r.Intn(100)))
			}
			if r.Intn(400) == 0 {
				s.c.Close(int64(r.Intn(100)))
			}
		}
	}
}

// TestDatagramsOnce is promise 13.7 of datagrams: each comes at most once, and without losses just once.
func TestDatagramsOnce(t *testing.T) {
	t.Parallel()
	for _, n := range []net{{}, {twice: 100}, {twice: 50, lost: 30, late: 50, asking: true}} {
		r := rand.New(rand.NewSource(7))
		a, b := newSite(t, false, r, 1), newSite(t, true, r, 1)
		for now := range int64(300) {
			a.pushNew(text(int(now)))
			b.pushNew(text(int(now)))
			n.tick(r, now, a, b, 1200)
		}
		for now := int64(300); now < 310; now++ {
			n.tick(r, now, a, b, 1200)
		}
		if len(a.pulled) == 0 || len(b.pulled) == 0 {
			t.Fatal("none came")
		}
		if n.lost == 0 && (len(a.pulled) < len(b.pushed)-3 || len(b.pulled) < len(a.pushed)-3) {
			t.Fatalf("%d of %d and %d of %d came", len(b.pulled), len(a.pushed), len(a.pulled), len(b.pushed))
		}
	}
}

// act does one of some small steps with an end; the tick stands where all steps can change it.
type act func(b *both, now *int64)

// smallActs are steps of which rows are made.
func smallActs() []act {
	return []act{
		func(b *both, now *int64) { b.write(0, "ab", false) },
		func(b *both, now *int64) { b.write(0, "c", true) },
		func(b *both, now *int64) { b.send(*now, 128) },
		func(b *both, now *int64) { *now += 8; b.send(*now, 1200) },
		func(b *both, now *int64) { b.take(ack(max(b.p.number-1, 0), max(b.p.number-1, 0))) },
		func(b *both, now *int64) { b.far++; b.take(piece(4, 1, "yz", true), ping) },
		func(b *both, now *int64) { b.take(piece(4, 0, "x", false)); b.read(4, 9) },
		func(b *both, now *int64) { b.reset(0, 3) },
		func(b *both, now *int64) { b.push("d") },
		func(b *both, now *int64) { b.take(dgram("e"), resets(4, 1, 3)); b.pull() },
		func(b *both, now *int64) { b.close(6) },
		func(b *both, now *int64) { b.recv(helloOf(theirs)); b.recv(welcomeOf(nonce)) },
	}
}

// take takes a packet with these frames, whatever comes of it.
func (b *both) take(l ...api.Frame) {
	b.t.Helper()
	s, _ := frames.Write(l)
	b.recv(b.dataPacket(b.far, s))
	b.far++
}

// TestSmallRows is promises 13.2 to 13.6 of every row of four small steps, held against the plain end.
func TestSmallRows(t *testing.T) {
	t.Parallel()
	acts := smallActs()
	n := len(acts)
	for row := range n * n * n * n {
		var b *both
		switch row % 5 {
		case 0:
			b = dialed(t)
		case 1:
			b = accepted(t)
		default:
			b = opened(t, row%2 == 0)
		}
		now := int64(0)
		for rest, i := row, 0; i < 4; rest, i = rest/n, i+1 {
			acts[rest%n](b, &now)
		}
		b.send(now, 128)
		b.send(now+100, 128)
	}
}

// step does something by chance with an end, and lays what it sends on its way to the other one.
func step(r *rand.Rand, now int64, b *both, mail, back *[]string) {
	id := allStreams[r.Intn(10)]
	switch kind := r.Intn(100); {
	case kind < 20:
		b.write(id, text(r.Intn(1500)), r.Intn(10) == 0)
	case kind < 24:
		b.push(text(r.Intn(1001)))
	case kind < 26:
		b.reset(id, int64(r.Intn(300)))
	case kind < 36:
		b.read(id, r.Intn(3000))
	case kind < 40:
		b.pull()
	case kind < 70:
		if packet, ok := b.send(now, 128+r.Intn(1073)); ok {
			*mail = append(*mail, packet)
		}
	case kind < 71 && r.Intn(5) == 0:
		b.close(int64(r.Intn(300)))
	case len(*back) > 0:
		i := r.Intn(min(len(*back), 4))
		packet := (*back)[i]
		if r.Intn(10) == 0 {
			packet = damaged(packet, r.Intn(len(packet)), byte(1+r.Intn(255)))
		}
		b.recv(packet)
		if r.Intn(10) > 0 {
			*back = slices.Delete(*back, i, i+1)
		}
	}
}

// TestRandomRows is promises 13.2 to 13.6 of rows of steps of two ends, between which packets are lost, come twice, late and damaged, held against the plain ends.
func TestRandomRows(t *testing.T) {
	t.Parallel()
	r := rand.New(rand.NewSource(13))
	for range 60 {
		a, b := dialed(t), accepted(t)
		var up, down []string
		now := int64(0)
		for range 250 {
			if r.Intn(2) == 0 {
				step(r, now, a, &up, &down)
			} else {
				step(r, now, b, &down, &up)
			}
			now += int64(r.Intn(2))
		}
	}
}

// FuzzSteps holds a row of steps, written as bytes, against the plain ends.
func FuzzSteps(f *testing.F) {
	f.Add(int64(1), []byte("\x00\x02\x0b\x02\x00\x02\x04\x03\x01\x03\x04"))
	f.Add(int64(2), []byte("\x05\x06\x03\x09\x08\x02\x0a\x02"))
	f.Add(int64(3), []byte("\x30\x31\x32\x33\x34\x35\x36\x37\x38\x39\x3a\x3b\x3c"))
	f.Fuzz(func(t *testing.T, seed int64, row []byte) {
		r := rand.New(rand.NewSource(seed))
		acts := smallActs()
		a, b := dialed(t), accepted(t)
		var up, down []string
		now := int64(0)
		for _, x := range row[:min(len(row), 200)] {
			switch end, other := a, b; {
			case x < 24:
				if x%2 == 0 {
					end = other
				}
				acts[x/2](end, &now)
			case x%2 == 0:
				step(r, now, a, &up, &down)
			default:
				step(r, now, b, &down, &up)
			}
			now += int64(x / 128)
		}
	})
}
