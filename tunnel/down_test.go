package tunnel_test

import (
	"math"
	"strings"
	"testing"

	"vizard/api"
	"vizard/tunnel"
)

// wantDown asks Down for an error, or for bytes; whatever the rules say, for they are asked of what goes up alone.
func wantDown(t *testing.T, name string, x tunnel.Tunnel, src uint32, from int, s string, want string, fault api.Errno) {
	t.Helper()
	other := someAddr(x)
	if !x.Target.Ip {
		other = x
		other.Own, other.Port = src, from
	}
	for _, one := range []tunnel.Tunnel{x, other} {
		for _, l := range [][]api.Rule{x.Rules, nil, {rule(true, 0, 0, 0)}, {rule(true, 0, 0, 33)}} {
			one.Rules = l
			if out, e := holdDown(t, name, one, src, from, s); out != want || e != fault {
				t.Errorf("%s: Down(%#x, %d, %.60x) is %.60x, %d; want %.60x, %d", name, src, from, s, out, e, want, fault)
			}
		}
	}
}

// TestDownSizes is promise 22.3 of how many bytes: ErrLong goes ahead of every other error.
func TestDownSizes(t *testing.T) {
	for _, size := range []int{0, 1, 999, 1000, 1001, 1002, 65535, 65536, 1 << 20} {
		s := strings.Repeat("x", size)
		if size > 1000 {
			wantDown(t, "a payload that is too long", payloads(53), host, 53, s, "", api.ErrLong)
			wantDown(t, "one from another", payloads(53), host+1, 54, s, "", api.ErrLong)
			wantDown(t, "no packet, and too long", packets(), host, 53, s, "", api.ErrLong)
			continue
		}
		wantDown(t, "a payload", payloads(53), host, 53, s, s, api.OK)
		wantDown(t, "one from another", payloads(53), host+1, 53, s, "", api.ErrDenied)
	}
	for _, size := range []int{0, 979, 980, 981, 982, 65515} {
		h := answer()
		h.Data = strings.Repeat("\x35", size)
		if size <= 980 {
			wantComes(t, "a packet", h)
			continue
		}
		wantDown(t, "a packet that is too long", packets(), host, 53, built(t, h), "", api.ErrLong)
		h.Dst, h.Ttl = own+1, 0
		wantDown(t, "one that has every other fault", packets(), host, 53, built(t, h), "", api.ErrLong)
		wantDown(t, "one that is cut", packets(), host, 53, built(t, h)[:1001], "", api.ErrLong)
	}
}

// TestDownPayloads is promise 22.3 of payloads: from the target's address and port, and from others.
func TestDownPayloads(t *testing.T) {
	addrs := []uint32{0, 1, host - 1, host, host + 1, host ^ 1<<31, math.MaxUint32}
	all := []int{math.MinInt, -1, 0, 1, 52, 53, 54, 65535, 65536, 65536 + 53, 1<<32 + 53, math.MaxInt}
	for _, addr := range addrs {
		for _, port := range all {
			x := payloads(port)
			x.Target.Addr = addr
			for _, src := range addrs {
				for _, from := range all {
					if src == addr && from == port {
						wantDown(t, "from the target", x, src, from, "yes", "yes", api.OK)
					} else {
						wantDown(t, "from another", x, src, from, "yes", "", api.ErrDenied)
					}
				}
			}
		}
	}
}

// answer is the header of a packet to the own address.
func answer() api.Header {
	return api.Header{Tos: 1, Id: 0x0203, Frag: 0x4000, Ttl: 64, Proto: 17, Src: host, Dst: own, Data: "\x00\x35\x9c\x40\x00\x09\x00\x00a"}
}

// wantComes asks that a packet goes down to its destination, a hop further, whatever is said of where it came from.
func wantComes(t *testing.T, name string, h api.Header) {
	t.Helper()
	x := packets()
	x.Own = h.Dst
	s := built(t, h)
	h.Ttl--
	want := built(t, h)
	for _, src := range []uint32{0, host, own, math.MaxUint32} {
		for _, from := range []int{math.MinInt, -1, 0, 53, 65536, math.MaxInt} {
			wantDown(t, name, x, src, from, s, want, api.OK)
		}
	}
}

// TestDownPackets is promise 22.3 of packets: to the own address and to others, from wherever, of whatever protocol.
func TestDownPackets(t *testing.T) {
	for _, address := range []uint32{0, 1, own, host, math.MaxUint32} {
		h := answer()
		h.Dst = address
		wantComes(t, "to the own address", h)
		for _, own := range []uint32{0, address - 1, address + 1, address ^ 1<<31, address ^ 1<<16} {
			if own == address {
				continue
			}
			x := packets()
			x.Own = own
			wantDown(t, "to another", x, host, 53, built(t, h), "", api.ErrDenied)
			wantDown(t, "to another, from the own address", x, own, 53, built(t, h), "", api.ErrDenied)
			h.Src = own
			wantDown(t, "to another, from the own address", x, host, 53, built(t, h), "", api.ErrDenied)
		}
	}
	for _, proto := range []int{0, 1, 6, 17, 255} {
		for _, frag := range []int{0, 0x2000, 0x1fff, 0xffff} {
			for _, data := range []string{"", "abc", "abcd"} {
				h := answer()
				h.Proto, h.Frag, h.Data = proto, frag, data
				wantComes(t, "whatever packet", h)
			}
		}
	}
}

// TestDownSpoilt is promise 22.3 of bytes that are no packet.
func TestDownSpoilt(t *testing.T) {
	for name, one := range spoilt(t) {
		x := packets()
		wantDown(t, name, x, host, 53, one.s, "", one.fault)
		x.Own = host
		wantDown(t, name+", to the own address", x, host, 53, one.s, "", one.fault)
	}
}

// TestDownTtl is promise 22.3 of the Ttl; that ErrDenied goes ahead of Hop's error.
func TestDownTtl(t *testing.T) {
	for ttl := range 256 {
		h := answer()
		h.Ttl = ttl
		if ttl >= 2 {
			wantComes(t, "a Ttl from 2 on", h)
		} else {
			wantDown(t, "a Ttl of 0 or 1", packets(), host, 53, built(t, h), "", api.ErrRange)
		}
		h.Dst = own + 1
		wantDown(t, "to another", packets(), host, 53, built(t, h), "", api.ErrDenied)
	}
}
