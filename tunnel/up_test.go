package tunnel_test

import (
	"math"
	"strings"
	"testing"

	"vizard/api"
	"vizard/ipv4"
	"vizard/policy"
	"vizard/tunnel"
	"vizard/udp"
)

// dns is the header of a packet from the own address to the host's port 53.
func dns() api.Header {
	return api.Header{Tos: 1, Id: 0x0203, Frag: 0x4000, Ttl: 64, Proto: 17, Src: own, Dst: host, Data: "\x9c\x40\x00\x35\x00\x09\x00\x00q"}
}

// built is a packet's bytes.
func built(t *testing.T, h api.Header) string {
	t.Helper()
	s, e := ipv4.Build(h)
	if e != api.OK {
		t.Fatalf("Build(%.200v): error %d", h, e)
	}
	return s
}

// with is bytes with others at a place.
func with(s string, place int, other string) string {
	return s[:place] + other + s[place+len(other):]
}

// holdPolicy is promise 22.5 of what went up, by what goes alone.
func holdPolicy(t *testing.T, name string, x tunnel.Tunnel, s string, out api.Emit) {
	t.Helper()
	if !out.Ip {
		if !policy.Allow(x.Rules, 17, out.Addr, out.To) {
			t.Fatalf("%s: %.200v goes, which the rules %+v do not allow", name, out, x.Rules)
		}
		return
	}
	h, e := ipv4.Parse(out.Data)
	if e != api.OK {
		t.Fatalf("%s: what goes is no packet: %d", name, e)
	}
	_, to, _ := udp.Ports(h)
	if !policy.Allow(x.Rules, h.Proto, h.Dst, to) || h.Src != x.Own || h.Dst != out.Addr {
		t.Fatalf("%s: %.200v goes to %#x, which the rules %+v do not allow", name, h, out.Addr, x.Rules)
	}
	if len(out.Data) != len(s) || h.Ttl+1 != int(s[8]) {
		t.Fatalf("%s: %d bytes with the Ttl %d became %d with %d", name, len(s), s[8], len(out.Data), h.Ttl)
	}
	for i := range len(s) {
		if out.Data[i] != s[i] && i != 8 && i != 10 && i != 11 {
			t.Fatalf("%s: the byte %d was changed", name, i)
		}
	}
}

// wantUp asks Up for an error, or for an emission.
func wantUp(t *testing.T, name string, x tunnel.Tunnel, s string, want api.Emit, fault api.Errno) {
	t.Helper()
	for _, one := range []tunnel.Tunnel{x, someAddr(x)} {
		if out, e := holdUp(t, name, one, s); out != want || e != fault {
			t.Errorf("%s: Up(%.60x) is %.200v, %d; want %.200v, %d", name, s, out, e, want, fault)
		}
	}
}

// wantGoes asks that a packet goes up, a hop further.
func wantGoes(t *testing.T, name string, x tunnel.Tunnel, h api.Header) {
	t.Helper()
	s := built(t, h)
	h.Ttl--
	wantUp(t, name, x, s, api.Emit{Ip: true, Addr: h.Dst, Data: built(t, h)}, api.OK)
}

func wantStays(t *testing.T, name string, x tunnel.Tunnel, h api.Header, fault api.Errno) {
	t.Helper()
	wantUp(t, name, x, built(t, h), api.Emit{}, fault)
}

// TestUpSizes is promise 22.2 of how many bytes: ErrLong goes ahead of every other error.
func TestUpSizes(t *testing.T) {
	open, shut := payloads(53, rule(true, 0, 0, 0)), payloads(53)
	for _, size := range []int{0, 1, 999, 1000, 1001, 1002, 65535, 65536, 1 << 20} {
		s := strings.Repeat("x", size)
		if size > 1000 {
			wantUp(t, "a payload that is too long", open, s, api.Emit{}, api.ErrLong)
			wantUp(t, "one that is not allowed either", shut, s, api.Emit{}, api.ErrLong)
			wantUp(t, "no packet, and too long", packets(rule(true, 0, 0, 0)), s, api.Emit{}, api.ErrLong)
			continue
		}
		wantUp(t, "a payload", open, s, api.Emit{Port: 40000, Addr: host, To: 53, Data: s}, api.OK)
		wantUp(t, "a payload that is not allowed", shut, s, api.Emit{}, api.ErrDenied)
	}
	for _, size := range []int{0, 979, 980, 981, 982, 65515} {
		h := dns()
		h.Data = strings.Repeat("\x35", size)
		if size <= 980 {
			wantGoes(t, "a packet", packets(rule(true, 0, 0, 0)), h)
			continue
		}
		wantStays(t, "a packet that is too long", packets(rule(true, 0, 0, 0)), h, api.ErrLong)
		wantStays(t, "one that is not allowed either", packets(), h, api.ErrLong)
		h.Src, h.Ttl = own+1, 0
		wantStays(t, "one that has every other fault", packets(), h, api.ErrLong)
		wantUp(t, "one that is cut", packets(), built(t, h)[:1001], api.Emit{}, api.ErrLong)
	}
}

// TestUpPayloads is promise 22.2 of payloads: the emission's numbers are the tunnel's, and it is denied just where Open is.
func TestUpPayloads(t *testing.T) {
	for _, port := range []int{math.MinInt, -1, 0, 1, 53, 65535, 65536, math.MaxInt} {
		for _, to := range []int{math.MinInt, -1, 0, 1, 53, 65535, 65536, math.MaxInt} {
			for _, addr := range []uint32{0, 1, host, math.MaxUint32} {
				for _, l := range [][]api.Rule{nil, {rule(true, 0, 0, 0)}, {rule(true, 17, host, 32)}, {rule(true, 6, 0, 0)}, {ports(rule(true, 17, 0, 0), 53, 53)}} {
					x := payloads(to, l...)
					x.Port, x.Target.Addr = port, addr
					for _, s := range []string{"", "q", "\x00\xff", strings.Repeat("\x45", 1000)} {
						if fault := x.Open(); fault != api.OK {
							wantUp(t, "denied as Open", x, s, api.Emit{}, fault)
							continue
						}
						wantUp(t, "open", x, s, api.Emit{Port: port, Addr: addr, To: to, Data: s}, api.OK)
					}
				}
			}
		}
	}
}

// spoilt are bytes that are no packet, and what is wrong with them; but for that, the first would go.
func spoilt(t *testing.T) map[string]struct {
	s     string
	fault api.Errno
} {
	type bytes = struct {
		s     string
		fault api.Errno
	}
	s := built(t, dns())
	return map[string]bytes{
		"nothing":                       {"", api.ErrShort},
		"one byte":                      {s[:1], api.ErrShort},
		"19 bytes":                      {s[:19], api.ErrShort},
		"19 bytes of another kind":      {"\x60" + s[1:19], api.ErrShort},
		"options":                       {resum(with(s, 0, "\x46")), api.ErrField},
		"another version":               {resum(with(s, 0, "\x65")), api.ErrField},
		"another kind, and too short":   {with(s, 0, "\x60")[:20], api.ErrField},
		"fewer bytes than it says":      {s[:len(s)-1], api.ErrShort},
		"a header alone":                {s[:20], api.ErrShort},
		"it says 19 bytes":              {resum(with(s, 2, "\x00\x13")), api.ErrShort},
		"it says 0 bytes":               {resum(with(s, 2, "\x00\x00")), api.ErrShort},
		"more bytes than it says":       {s + "\x00", api.ErrMore},
		"more bytes, and a wrong sum":   {with(s, 10, "\x00\x00") + "\x00", api.ErrMore},
		"a wrong sum":                   {with(s, 10, "\x00\x00"), api.ErrSum},
		"another byte":                  {with(s, 1, "\x02"), api.ErrSum},
		"another source, not summed":    {with(s, 15, "\x02"), api.ErrSum},
		"a Ttl of 0, not summed":        {with(s, 8, "\x00"), api.ErrSum},
		"another address, not summed":   {with(s, 19, "\x07"), api.ErrSum},
		"a sum of FFFF that would be 0": {sumOfNought(t), api.ErrSum},
	}
}

// sumOfNought is a packet whose check sum would be 0, with FFFF there.
func sumOfNought(t *testing.T) string {
	t.Helper()
	h := dns()
	h.Id = 0
	s := built(t, h)
	h.Id = int(s[10])<<8 | int(s[11])
	s = built(t, h)
	if s[10:12] != "\x00\x00" {
		t.Fatalf("the sum is %x", s[10:12])
	}
	return with(s, 10, "\xff\xff")
}

// TestUpSpoilt is promise 22.2 of bytes that are no packet: it is told what is wrong, whatever the rules say.
func TestUpSpoilt(t *testing.T) {
	for name, one := range spoilt(t) {
		wantUp(t, name, packets(rule(true, 0, 0, 0)), one.s, api.Emit{}, one.fault)
		wantUp(t, name+", without rules", packets(), one.s, api.Emit{}, one.fault)
	}
}

// TestUpSource is promise 22.2 of packets' sources.
func TestUpSource(t *testing.T) {
	for _, address := range []uint32{0, 1, own, host, math.MaxUint32} {
		x := packets(rule(true, 0, 0, 0))
		x.Own = address
		for _, src := range []uint32{0, address - 1, address, address + 1, address ^ 1<<31, address ^ 1<<16, host} {
			h := dns()
			h.Src = src
			if src == address {
				wantGoes(t, "the own source", x, h)
			} else {
				wantStays(t, "another source", x, h, api.ErrDenied)
			}
		}
	}
}

// TestUpRules is promise 22.2 of what the rules say of a packet, by its protocol, destination and port.
func TestUpRules(t *testing.T) {
	other := func(change func(h *api.Header)) api.Header {
		h := dns()
		change(&h)
		return h
	}
	tcp := other(func(h *api.Header) { h.Proto = 6 })
	icmp := other(func(h *api.Header) { h.Proto = 1 })
	none := other(func(h *api.Header) { h.Proto = 0 })
	last := other(func(h *api.Header) { h.Proto = 255 })
	beside := other(func(h *api.Header) { h.Dst = host + 1 })
	self := other(func(h *api.Header) { h.Dst = own })
	above := other(func(h *api.Header) { h.Data = "\x00\x35\x00\x36" })
	for _, one := range []struct {
		name     string
		rules    []api.Rule
		yes, not []api.Header
	}{
		{"no rules", nil, nil, []api.Header{dns(), tcp, icmp, none, last, beside, self, above}},
		{"all", []api.Rule{rule(true, 0, 0, 0)}, []api.Header{dns(), tcp, icmp, none, last, beside, self, above}, nil},
		{"none", []api.Rule{rule(false, 0, 0, 0)}, nil, []api.Header{dns(), tcp, icmp, none, last, beside, self, above}},
		{"one protocol", []api.Rule{rule(true, 17, 0, 0)}, []api.Header{dns(), beside, self, above}, []api.Header{tcp, icmp, none, last}},
		{"another protocol", []api.Rule{rule(true, 6, 0, 0)}, []api.Header{tcp}, []api.Header{dns(), icmp, none, last}},
		{"not one protocol", []api.Rule{rule(false, 17, 0, 0), rule(true, 0, 0, 0)}, []api.Header{tcp, icmp, none, last}, []api.Header{dns(), beside}},
		{"one destination", []api.Rule{rule(true, 0, host, 32)}, []api.Header{dns(), tcp, icmp, none, last, above}, []api.Header{beside, self}},
		{"not one destination", []api.Rule{rule(false, 0, host, 32), rule(true, 0, 0, 0)}, []api.Header{beside, self}, []api.Header{dns(), tcp, icmp, above}},
		{"the own address is no way round", []api.Rule{rule(false, 0, own, 32), rule(true, 0, 0, 0)}, []api.Header{dns(), tcp}, []api.Header{self}},
		{"one port", []api.Rule{ports(rule(true, 0, 0, 0), 53, 53)}, []api.Header{dns(), tcp, beside}, []api.Header{above, icmp, none, last}},
		{"not one port", []api.Rule{ports(rule(false, 0, 0, 0), 53, 53), rule(true, 0, 0, 0)}, []api.Header{above, icmp, none, last}, []api.Header{dns(), tcp}},
		{"the port from which", []api.Rule{ports(rule(true, 0, 0, 0), 0x9c40, 0x9c40)}, nil, []api.Header{dns(), tcp}},
		{"the port 0 alone", []api.Rule{ports(rule(true, 0, 0, 0), 0, 0)}, []api.Header{icmp, none, last}, []api.Header{dns(), tcp, above}},
	} {
		for _, h := range one.yes {
			wantGoes(t, one.name, packets(one.rules...), h)
		}
		for _, h := range one.not {
			wantStays(t, one.name, packets(one.rules...), h, api.ErrDenied)
		}
	}
	for name, l := range faulty() {
		wantStays(t, name, packets(l...), dns(), api.ErrDenied)
	}
}

// TestUpPorts is promise 22.2 of the port to which: of which packets it is the one that they tell, and of which it is 0.
func TestUpPorts(t *testing.T) {
	nought, told := ports(rule(true, 0, 0, 0), 0, 0), ports(rule(true, 0, 0, 0), 0x3536, 0x3536)
	for proto := range 256 {
		for _, frag := range []int{0, 0x2000, 0x4000, 0x8000, 0xe000, 1, 0x1000, 0x1fff, 0x2001, 0xffff} {
			for size := range 7 {
				h := dns()
				h.Proto, h.Frag, h.Data = proto, frag, "\x01\x02\x35\x36\x04\x05"[:size]
				first := frag == 0 || frag == 0x2000 || frag == 0x4000 || frag == 0x8000 || frag == 0xe000
				if (proto == 17 || proto == 6) && first && size >= 4 {
					wantGoes(t, "a port", packets(told), h)
					wantStays(t, "a port", packets(nought), h, api.ErrDenied)
				} else {
					wantGoes(t, "no port", packets(nought), h)
					wantStays(t, "no port", packets(told), h, api.ErrDenied)
				}
			}
		}
	}
	for _, port := range []int{0, 1, 255, 256, 257, 65534, 65535} {
		h := dns()
		h.Data = "\x01\x02" + string([]byte{byte(port >> 8), byte(port)})
		wantGoes(t, "one port", packets(ports(rule(true, 17, host, 32), port, port)), h)
		if port > 0 {
			wantStays(t, "the ports below", packets(ports(rule(true, 17, host, 32), 0, port-1)), h, api.ErrDenied)
		}
		if port < 65535 {
			wantStays(t, "the ports above", packets(ports(rule(true, 17, host, 32), port+1, 65535)), h, api.ErrDenied)
		}
	}
}

// TestUpTtl is promise 22.2 of the Ttl; that ErrDenied goes ahead of Hop's error.
func TestUpTtl(t *testing.T) {
	for ttl := range 256 {
		h := dns()
		h.Ttl = ttl
		if ttl >= 2 {
			wantGoes(t, "a Ttl from 2 on", packets(rule(true, 0, 0, 0)), h)
		} else {
			wantStays(t, "a Ttl of 0 or 1", packets(rule(true, 0, 0, 0)), h, api.ErrRange)
		}
		wantStays(t, "without rules", packets(), h, api.ErrDenied)
		h.Src = host
		wantStays(t, "from another", packets(rule(true, 0, 0, 0)), h, api.ErrDenied)
	}
}
