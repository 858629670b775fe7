package tunnel_test

import (
	"math"
	"math/rand"
	"testing"

	"vizard/api"
	"vizard/tunnel"
)

// someRules are rules that tell protocols, destinations and ports apart.
func someRules() [][]api.Rule {
	return [][]api.Rule{
		nil,
		{rule(true, 0, 0, 0)},
		{rule(true, 17, host, 32)},
		{rule(true, 6, 0, 0), rule(false, 0, host, 32)},
		{rule(false, 17, 0, 0), rule(true, 0, 0x0A000000, 8)},
		{ports(rule(true, 17, 0x0A000000, 30), 53, 53)},
		{ports(rule(false, 0, 0, 0), 53, 53), rule(true, 0, 0, 0)},
		{ports(rule(true, 0, 0, 0), 0, 0)},
		{ports(rule(true, 0, 0, 0), 1, 65535)},
		{rule(false, 0, own, 32), rule(true, 0, 0, 0)},
		{rule(true, 0, 0, 0), rule(true, 0, 0, 33)},
	}
}

// TestEveryPacket is promises 22.2, 22.3 and 22.5 of every packet made of a few of each number.
func TestEveryPacket(t *testing.T) {
	var all []string
	for _, proto := range []int{0, 1, 6, 17, 255} {
		for _, frag := range []int{0, 0x4000, 1, 0x3fff} {
			for _, ttl := range []int{0, 1, 2, 255} {
				for _, src := range []uint32{0, own, own + 1} {
					for _, dst := range []uint32{own, host, host + 2, math.MaxUint32} {
						for _, data := range []string{"", "\x00\x00\x00", "\x00\x00\x00\x35", "\x00\x35\x00\x00more"} {
							all = append(all, built(t, api.Header{Ttl: ttl, Proto: proto, Frag: frag, Src: src, Dst: dst, Data: data}))
						}
					}
				}
			}
		}
	}
	for _, l := range someRules() {
		x := packets(l...)
		holdOpen(t, "some rules", x)
		for _, s := range all {
			holdUp(t, "every packet", x, s)
		}
	}
	for _, s := range all {
		holdDown(t, "every packet", packets(), host, 53, s)
	}
}

// TestEveryPayload is promises 22.1 to 22.3 and 22.5 of every tunnel of payloads made of a few of each number.
func TestEveryPayload(t *testing.T) {
	for _, l := range someRules() {
		for _, addr := range []uint32{0, own, host, host + 1, host + 2, math.MaxUint32} {
			for _, port := range []int{math.MinInt, -1, 0, 1, 53, 65535, 65536, math.MaxInt} {
				for _, from := range []int{-1, 0, 40000, 65536} {
					x := payloads(port, l...)
					x.Target.Addr, x.Port = addr, from
					holdOpen(t, "every tunnel", x)
					holdUp(t, "every tunnel", x, "q")
					holdDown(t, "every tunnel", x, addr, port, "a")
					holdDown(t, "every tunnel", x, addr, from, "a")
					holdDown(t, "every tunnel", x, addr+1, port, "a")
				}
			}
		}
	}
}

// TestEveryByteTurned is promises 22.2 and 22.3 of packets of which one byte of the header is another.
func TestEveryByteTurned(t *testing.T) {
	up, down := built(t, dns()), built(t, answer())
	x := packets(rule(true, 0, 0, 0))
	for place := range 20 {
		for other := range 256 {
			turned := string([]byte{byte(other)})
			for _, s := range []string{with(up, place, turned), with(down, place, turned), resum(with(up, place, turned)), resum(with(down, place, turned))} {
				holdUp(t, "a byte turned", x, s)
				holdDown(t, "a byte turned", x, host, 53, s)
			}
		}
	}
}

// pick is one of some.
func pick[T any](random *rand.Rand, some ...T) T {
	return some[random.Intn(len(some))]
}

// randomAddr is an address of a few that lie near one another.
func randomAddr(random *rand.Rand) uint32 {
	return host&^7 + uint32(random.Intn(10)) - 1
}

// randomRules is rules that name addresses near one another.
func randomRules(random *rand.Rand) (l []api.Rule) {
	for range random.Intn(7) {
		bits := pick(random, 0, 8, 29, 30, 31, 32)
		addr := uint32(uint64(randomAddr(random)) >> (32 - bits) << (32 - bits))
		from := pick(random, 0, 0, 1, 2)
		r := ports(rule(random.Intn(3) > 0, pick(random, 0, 0, 6, 17, 1), addr, bits), from, pick(random, from, from+1, 65535))
		if random.Intn(60) == 0 {
			r.Upto = -1
		}
		l = append(l, r)
	}
	return l
}

// randomTunnel is a tunnel whose numbers are few.
func randomTunnel(random *rand.Rand) tunnel.Tunnel {
	return tunnel.Tunnel{
		Target: api.Target{Ip: random.Intn(3) > 0, Addr: randomAddr(random), Port: pick(random, -1, 0, 1, 2, 3, 53)},
		Own:    randomAddr(random),
		Port:   pick(random, 1, 40000, 65535, 65536),
		Rules:  randomRules(random),
	}
}

// randomPacket is a packet that comes from a tunnel's own address, or goes there, most often.
func randomPacket(t *testing.T, random *rand.Rand, x tunnel.Tunnel) string {
	t.Helper()
	data := make([]byte, pick(random, 0, 3, 4, 8, 20, 980))
	random.Read(data)
	if len(data) >= 4 {
		data[2], data[3] = 0, byte(random.Intn(4))
	}
	h := api.Header{
		Tos: random.Intn(256), Id: random.Intn(65536), Frag: pick(random, 0, 0, 0x4000, 0x2000, 7), Ttl: pick(random, 0, 1, 2, 3, 64, 128, 255), Proto: pick(random, 0, 1, 6, 6, 17, 17, 17, 200),
		Src: pick(random, x.Own, x.Own, x.Own, randomAddr(random)), Dst: pick(random, x.Own, randomAddr(random), randomAddr(random)), Data: string(data),
	}
	s := built(t, h)
	if random.Intn(20) == 0 {
		s = with(s, random.Intn(20), string([]byte{byte(random.Intn(256))}))
	}
	return s
}

// TestRandomTunnels is promise 22.5 of tunnels drawn at random, and 22.1 to 22.3 of what goes through them and does not.
func TestRandomTunnels(t *testing.T) {
	random := rand.New(rand.NewSource(225))
	went := map[bool]map[api.Errno]int{false: {}, true: {}}
	came := map[bool]map[api.Errno]int{false: {}, true: {}}
	for range 5000 {
		x := randomTunnel(random)
		holdOpen(t, "a random tunnel", x)
		for range 6 {
			s := randomPacket(t, random, x)
			_, e := holdUp(t, "a random packet", x, s)
			went[x.Target.Ip][e]++
			_, e = holdDown(t, "a random packet", x, pick(random, x.Target.Addr, randomAddr(random)), pick(random, x.Target.Port, 53), s)
			came[x.Target.Ip][e]++
		}
	}
	for _, counts := range []map[bool]map[api.Errno]int{went, came} {
		for _, e := range []api.Errno{api.OK, api.ErrDenied} {
			if counts[false][e] < 100 || counts[true][e] < 100 {
				t.Errorf("too few of the error %d to tell: %v", e, counts)
			}
		}
		if counts[true][api.ErrRange] < 100 || counts[true][api.ErrSum] < 100 {
			t.Errorf("too few packets that do not hop to tell: %v", counts)
		}
	}
}

// TestRandomBytes is promise 22.4 of bytes drawn at random, and of emissions.
func TestRandomBytes(t *testing.T) {
	random := rand.New(rand.NewSource(224))
	for range 20000 {
		b := make([]byte, random.Intn(24))
		random.Read(b)
		if len(b) > 0 {
			b[0] %= 3
		}
		holdUnpack(t, "random bytes", string(b))
		holdPack(t, "a random emission", api.Emit{Ip: random.Intn(2) == 0, Port: random.Intn(70000) - 2000, Addr: random.Uint32(), To: random.Intn(70000) - 2000, Data: string(b)})
	}
}

// TestNothingKept is that an answer hangs on the tunnel as it is: other rules are asked at once, and what was handed out stays.
func TestNothingKept(t *testing.T) {
	l := []api.Rule{rule(true, 0, 0, 0)}
	for _, x := range []tunnel.Tunnel{payloads(53, l...), packets(l...)} {
		s := built(t, dns())
		x.Rules[0] = rule(true, 0, 0, 0)
		first, e := x.Up(s)
		if e != api.OK {
			t.Fatalf("Up of %+v is %d", x, e)
		}
		told := first
		x.Rules[0].Allow = false
		if e := x.Open(); e != api.ErrDenied {
			t.Errorf("Open of %+v is %d", x, e)
		}
		if _, e := x.Up(s); e != api.ErrDenied {
			t.Errorf("Up of %+v is %d", x, e)
		}
		if first != told {
			t.Errorf("%.200v became %.200v", told, first)
		}
		x.Rules[0].Allow = true
		if again, e := x.Up(s); again != told || e != api.OK {
			t.Errorf("Up of %+v is %.200v, %d", x, again, e)
		}
	}
}

// rulesOf reads rules out of bytes: six each.
func rulesOf(s []byte) (l []api.Rule) {
	for ; len(s) >= 6 && len(l) < 34; s = s[6:] {
		bits := int(s[1])%36 - 1
		addr := uint32(s[2])<<24 | uint32(s[3])
		if bits >= 0 && bits <= 32 {
			addr = uint32(uint64(addr) >> (32 - bits) << (32 - bits))
		}
		from := int(s[4])
		l = append(l, ports(rule(s[0]&1 == 1, int(s[0])>>1, addr, bits), from, from+int(s[5])*int(s[5])-1))
	}
	return l
}

func FuzzThrough(f *testing.F) {
	f.Add([]byte("\x01\x01\x00\x00\x00\xff"), false, uint32(host), 53, uint32(own), 40000, uint32(host), 53, "q")
	f.Add([]byte("\x23\x21\x0a\x02\x35\x01"), true, uint32(host), 53, uint32(own), 0, uint32(host), 53, "\x45\x00\x00\x18\x00\x00\x00\x00\x40\x11\x00\x00\x0a\x09\x00\x01\x0a\x00\x00\x02\x01\x02\x00\x35")
	f.Add([]byte(""), true, uint32(0), 0, uint32(host), 0, uint32(0), 0, "\x45\x00\x00\x14\x00\x00\x00\x00\x40\x11\x00\x00\x0a\x09\x00\x01\x0a\x00\x00\x02")
	f.Fuzz(func(t *testing.T, rules []byte, ip bool, addr uint32, port int, own uint32, from int, src uint32, of int, s string) {
		x := tunnel.Tunnel{Target: api.Target{Ip: ip, Addr: addr, Port: port}, Own: own, Port: from, Rules: rulesOf(rules)}
		// Few bytes that are drawn have the right sum, or the own address.
		all := []string{s}
		if len(s) >= 20 {
			four := string([]byte{byte(own >> 24), byte(own >> 16), byte(own >> 8), byte(own)})
			all = append(all, resum(s), resum(with(s, 12, four)), resum(with(s, 16, four)))
		}
		holdOpen(t, "fuzzed", x)
		for _, one := range all {
			holdUp(t, "fuzzed", x, one)
			holdDown(t, "fuzzed", x, src, of, one)
			holdDown(t, "fuzzed", x, addr, port, one)
		}
	})
}

func FuzzPack(f *testing.F) {
	f.Add(false, 40000, uint32(host), 53, "q")
	f.Add(true, -1, uint32(math.MaxUint32), 65536, "\x01\x00\x00\x00\x00\x0a\x00\x00\x02E")
	f.Fuzz(func(t *testing.T, ip bool, port int, addr uint32, to int, s string) {
		holdPack(t, "fuzzed", api.Emit{Ip: ip, Port: port, Addr: addr, To: to, Data: s})
		holdUnpack(t, "fuzzed", s)
	})
}
