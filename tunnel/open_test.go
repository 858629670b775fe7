package tunnel_test

import (
	"math"
	"slices"
	"strings"
	"testing"

	"vizard/api"
	"vizard/tunnel"
)

// rule is one for all ports.
func rule(allow bool, proto int, addr uint32, bits int) api.Rule {
	return api.Rule{Allow: allow, Proto: proto, To: api.Prefix{Addr: addr, Bits: bits}, Upto: 65535}
}

// ports is a rule with other ports.
func ports(r api.Rule, from, upto int) api.Rule {
	r.From, r.Upto = from, upto
	return r
}

// payloads is a tunnel of payloads to the host.
func payloads(port int, rules ...api.Rule) tunnel.Tunnel {
	return tunnel.Tunnel{Target: api.Target{Addr: host, Port: port}, Port: 40000, Rules: rules}
}

// packets is a tunnel of packets.
func packets(rules ...api.Rule) tunnel.Tunnel {
	return tunnel.Tunnel{Target: api.Target{Ip: true}, Own: own, Rules: rules}
}

// someAddr is a tunnel with whatever it must not look at, so that it would tell.
func someAddr(x tunnel.Tunnel) tunnel.Tunnel {
	if x.Target.Ip {
		x.Target.Addr, x.Target.Port, x.Port = host, 53, 40000
	} else {
		x.Own = host
	}
	return x
}

func wantOpen(t *testing.T, name string, x tunnel.Tunnel, want api.Errno) {
	t.Helper()
	for _, one := range []tunnel.Tunnel{x, someAddr(x)} {
		if e := holdOpen(t, name, one); e != want {
			t.Errorf("%s: Open of %+v is %d, want %d", name, one, e, want)
		}
	}
}

// TestExample is promises 22.1 to 22.4 of the chapter's example.
func TestExample(t *testing.T) {
	x := payloads(53, rule(true, 0, 0, 0))
	wantOpen(t, "the example", x, api.OK)
	e, fault := holdUp(t, "the example", x, "q")
	if e != (api.Emit{Port: 40000, Addr: host, To: 53, Data: "q"}) || fault != api.OK {
		t.Errorf("Up is %+v, %d", e, fault)
	}
	if s, fault := holdDown(t, "the example", x, host, 53, "a"); s != "a" || fault != api.OK {
		t.Errorf("Down is %q, %d", s, fault)
	}
	if s, fault := holdDown(t, "from another", x, host+1, 53, "a"); s != "" || fault != api.ErrDenied {
		t.Errorf("Down from another is %q, %d", s, fault)
	}
	if e, fault := holdUp(t, "too long", x, strings.Repeat("x", 1001)); e != (api.Emit{}) || fault != api.ErrLong {
		t.Errorf("Up of 1001 bytes is %+v, %d", e, fault)
	}
	if s := holdPack(t, "the example", e); s != "\x00\x9c\x40\x00\x35\x0a\x00\x00\x02q" {
		t.Errorf("Pack is %x", s)
	}
}

// faulty are rules that are not right; each of them would be a yes, but for its fault.
func faulty() map[string][]api.Rule {
	yes := rule(true, 0, 0, 0)
	return map[string][]api.Rule{
		"a protocol below 0":       {yes, rule(true, -1, 0, 0)},
		"a protocol of 256":        {yes, rule(true, 256, 0, 0)},
		"a prefix of 33 bits":      {yes, rule(true, 0, host, 33)},
		"a prefix with a bit more": {yes, rule(true, 0, 1, 31)},
		"a port below 0":           {yes, ports(yes, -1, 65535)},
		"a port of 65536":          {yes, ports(yes, 0, 65536)},
		"ports that fall":          {yes, ports(yes, 2, 1)},
		"33 rules":                 slices.Repeat([]api.Rule{yes}, 33),
	}
}

// TestOpenPayloads is promise 22.1 of payloads that the rules allow, forbid, and do not name.
func TestOpenPayloads(t *testing.T) {
	for _, one := range []struct {
		name  string
		rules []api.Rule
		want  api.Errno
	}{
		{"no rules", nil, api.ErrDenied},
		{"any protocol", []api.Rule{rule(true, 0, host, 32)}, api.OK},
		{"the protocol 17", []api.Rule{rule(true, 17, host, 32)}, api.OK},
		{"the protocol 6 alone", []api.Rule{rule(true, 6, host, 32)}, api.ErrDenied},
		{"the protocol 1 alone", []api.Rule{rule(true, 1, host, 32)}, api.ErrDenied},
		{"any protocol, forbidden", []api.Rule{rule(false, 0, host, 32), rule(true, 0, 0, 0)}, api.ErrDenied},
		{"the protocol 17, forbidden", []api.Rule{rule(false, 17, host, 32), rule(true, 0, 0, 0)}, api.ErrDenied},
		{"the protocol 6, forbidden", []api.Rule{rule(false, 6, host, 32), rule(true, 0, 0, 0)}, api.OK},
		{"forbidden behind a yes", []api.Rule{rule(true, 0, host, 32), rule(false, 0, 0, 0)}, api.OK},
		{"another address", []api.Rule{rule(true, 0, host+1, 32), rule(true, 0, host-1, 32)}, api.ErrDenied},
		{"the address's prefix", []api.Rule{rule(true, 0, 0x0A000000, 8)}, api.OK},
		{"the port alone", []api.Rule{ports(rule(true, 17, host, 32), 53, 53)}, api.OK},
		{"the port below", []api.Rule{ports(rule(true, 17, host, 32), 0, 52)}, api.ErrDenied},
		{"the port above", []api.Rule{ports(rule(true, 17, host, 32), 54, 65535)}, api.ErrDenied},
		{"the port, forbidden", []api.Rule{ports(rule(false, 17, host, 32), 53, 53), rule(true, 0, 0, 0)}, api.ErrDenied},
		{"32 rules", append(slices.Repeat([]api.Rule{rule(false, 6, 0, 0)}, 31), rule(true, 0, 0, 0)), api.OK},
	} {
		wantOpen(t, one.name, payloads(53, one.rules...), one.want)
	}
	for name, l := range faulty() {
		wantOpen(t, name, payloads(53, l...), api.ErrDenied)
	}
}

// TestOpenPorts is promise 22.1 of targets' ports, of which some are none.
func TestOpenPorts(t *testing.T) {
	for _, one := range []struct {
		port      int
		all, most api.Errno
	}{
		{math.MinInt, api.ErrDenied, api.ErrDenied}, {-65483, api.ErrDenied, api.ErrDenied}, {-1, api.ErrDenied, api.ErrDenied},
		{0, api.OK, api.ErrDenied}, {1, api.OK, api.OK}, {53, api.OK, api.OK}, {65534, api.OK, api.OK}, {65535, api.OK, api.ErrDenied},
		{65536, api.ErrDenied, api.ErrDenied}, {65536 + 53, api.ErrDenied, api.ErrDenied}, {1<<32 + 53, api.ErrDenied, api.ErrDenied}, {math.MaxInt, api.ErrDenied, api.ErrDenied},
	} {
		wantOpen(t, "all ports", payloads(one.port, rule(true, 0, 0, 0)), one.all)
		wantOpen(t, "all ports but the ends", payloads(one.port, ports(rule(true, 0, 0, 0), 1, 65534)), one.most)
		wantOpen(t, "none", payloads(one.port), api.ErrDenied)
	}
}

// TestOpenPackets is promise 22.1 of packets: what counts is whether there is a route, wherever to.
func TestOpenPackets(t *testing.T) {
	for _, one := range []struct {
		name  string
		rules []api.Rule
		want  api.Errno
	}{
		{"no rules", nil, api.ErrDenied},
		{"all addresses", []api.Rule{rule(true, 0, 0, 0)}, api.OK},
		{"one address", []api.Rule{rule(true, 0, 0xC0000201, 32)}, api.OK},
		{"the first address", []api.Rule{rule(true, 0, 0, 32)}, api.OK},
		{"the last address", []api.Rule{rule(true, 0, math.MaxUint32, 32)}, api.OK},
		{"one protocol", []api.Rule{rule(true, 6, host, 32)}, api.OK},
		{"the last protocol", []api.Rule{rule(true, 255, host, 32)}, api.OK},
		{"one port", []api.Rule{ports(rule(true, 17, host, 32), 53, 53)}, api.OK},
		{"the port 0", []api.Rule{ports(rule(true, 17, host, 32), 0, 0)}, api.OK},
		{"nothing but forbidden", []api.Rule{rule(false, 0, 0, 0)}, api.ErrDenied},
		{"forbidden ahead", []api.Rule{rule(false, 0, host, 32), rule(true, 17, host, 32)}, api.ErrDenied},
		{"forbidden ahead, but for a protocol", []api.Rule{rule(false, 6, host, 32), rule(true, 0, host, 32)}, api.OK},
		{"forbidden ahead, but for a port", []api.Rule{ports(rule(false, 0, host, 32), 1, 65535), rule(true, 17, host, 32)}, api.OK},
		{"forbidden ahead in two parts", []api.Rule{ports(rule(false, 0, host, 32), 0, 99), ports(rule(false, 0, host, 32), 100, 65535), rule(true, 17, host, 32)}, api.ErrDenied},
		{"forbidden ahead, but for an address", []api.Rule{rule(false, 0, host, 32), rule(true, 17, host, 31)}, api.OK},
	} {
		wantOpen(t, one.name, packets(one.rules...), one.want)
	}
	for name, l := range faulty() {
		wantOpen(t, name, packets(l...), api.ErrDenied)
	}
}
