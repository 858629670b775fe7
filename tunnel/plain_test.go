package tunnel_test

import (
	"encoding/binary"
	"math"
	"slices"
	"strings"
	"testing"

	"vizard/api"
	"vizard/tunnel"
)

const (
	host = 0x0A000002
	own  = 0x0A090001
)

// prefixRight is whether a prefix is right: its first address is a multiple of how many it has.
func prefixRight(p api.Prefix) bool {
	return p.Bits >= 0 && p.Bits <= 32 && uint64(p.Addr)%(1<<(32-p.Bits)) == 0
}

// rulesRight is whether rules are right, and not too many.
func rulesRight(l []api.Rule) bool {
	return len(l) <= 32 && !slices.ContainsFunc(l, func(r api.Rule) bool {
		return !prefixRight(r.To) || r.Proto < 0 || r.Proto > 255 || r.From < 0 || r.From > r.Upto || r.Upto > 65535
	})
}

// allowed is what rules say of a packet.
func allowed(l []api.Rule, proto int, dst uint32, port int) bool {
	if !rulesRight(l) {
		return false
	}
	first := slices.IndexFunc(l, func(r api.Rule) bool {
		near := uint64(dst)>>(32-r.To.Bits) == uint64(r.To.Addr)>>(32-r.To.Bits)
		return near && (r.Proto == 0 || r.Proto == proto) && r.From <= port && port <= r.Upto
	})
	return first >= 0 && l[first].Allow
}

// edges is the addresses and the ports at which rules begin, and those just behind them.
func edges(l []api.Rule) (addrs []uint32, ports []int) {
	for _, r := range l {
		addrs = append(addrs, r.To.Addr, uint32(uint64(r.To.Addr)+1<<(32-r.To.Bits)))
		ports = append(ports, r.From, min(r.Upto+1, 65535))
	}
	slices.Sort(addrs)
	slices.Sort(ports)
	return slices.Compact(addrs), slices.Compact(ports)
}

// reaches is whether rules allow some packet: then they allow one of a protocol that they name, or of the next one, at one of their edges.
func reaches(l []api.Rule) bool {
	if !rulesRight(l) {
		return false
	}
	protos := []int{1}
	for _, r := range l {
		protos = append(protos, r.Proto, r.Proto+1)
	}
	slices.Sort(protos)
	addrs, ports := edges(l)
	for _, proto := range slices.Compact(protos) {
		for _, addr := range addrs {
			for _, port := range ports {
				if proto >= 1 && proto <= 255 && allowed(l, proto, addr, port) {
					return true
				}
			}
		}
	}
	return false
}

// added is two numbers of sixteen bits, with what is above these added below.
func added(a, b uint16) uint16 {
	sum := uint32(a) + uint32(b)
	return uint16(sum) + uint16(sum>>16)
}

// resum is a packet with the check sum that it ought to have.
func resum(s string) string {
	b := []byte(s)
	b[10], b[11] = 0, 0
	sum := uint16(0)
	for i := 0; i < 20; i += 2 {
		sum = added(sum, binary.BigEndian.Uint16(b[i:]))
	}
	binary.BigEndian.PutUint16(b[10:], ^sum)
	return string(b)
}

// faultOf is what is wrong with a packet.
func faultOf(s string) api.Errno {
	switch {
	case len(s) < 20:
		return api.ErrShort
	case s[0] != 0x45:
		return api.ErrField
	}
	switch size := int(s[2])*256 + int(s[3]); {
	case size < 20, len(s) < size:
		return api.ErrShort
	case len(s) > size:
		return api.ErrMore
	case resum(s) != s:
		return api.ErrSum
	}
	return api.OK
}

// four is four bytes as a number.
func four(s string) uint32 {
	return binary.BigEndian.Uint32([]byte(s))
}

// portTo is the port to which a packet goes; 0, if it has none.
func portTo(s string) int {
	offset := binary.BigEndian.Uint16([]byte(s[6:])) << 3
	if offset != 0 || len(s) < 24 || !strings.Contains("\x06\x11", s[9:10]) {
		return 0
	}
	return int(binary.BigEndian.Uint16([]byte(s[22:])))
}

// hopped is a packet a hop further: what the Ttl loses, the check sum gets.
func hopped(s string) string {
	b := []byte(s)
	before := binary.BigEndian.Uint16(b[8:])
	b[8]--
	sum := ^binary.BigEndian.Uint16(b[10:])
	sum = added(added(sum, ^before), binary.BigEndian.Uint16(b[8:]))
	binary.BigEndian.PutUint16(b[10:], ^sum)
	return string(b)
}

// openOf is what Open must answer.
func openOf(x tunnel.Tunnel) api.Errno {
	if x.Target.Ip && reaches(x.Rules) || !x.Target.Ip && allowed(x.Rules, 17, x.Target.Addr, x.Target.Port) {
		return api.OK
	}
	return api.ErrDenied
}

// upOf is what Up must answer.
func upOf(x tunnel.Tunnel, s string) (api.Emit, api.Errno) {
	if len(s) >= 1001 {
		return api.Emit{}, api.ErrLong
	}
	if !x.Target.Ip {
		if e := openOf(x); e != api.OK {
			return api.Emit{}, e
		}
		return api.Emit{Port: x.Port, Addr: x.Target.Addr, To: x.Target.Port, Data: s}, api.OK
	}
	if e := faultOf(s); e != api.OK {
		return api.Emit{}, e
	}
	if four(s[12:]) != x.Own || !allowed(x.Rules, int(s[9]), four(s[16:]), portTo(s)) {
		return api.Emit{}, api.ErrDenied
	}
	if s[8] < 2 {
		return api.Emit{}, api.ErrRange
	}
	return api.Emit{Ip: true, Addr: four(s[16:]), Data: hopped(s)}, api.OK
}

// downOf is what Down must answer.
func downOf(x tunnel.Tunnel, src uint32, from int, s string) (string, api.Errno) {
	if len(s) >= 1001 {
		return "", api.ErrLong
	}
	if !x.Target.Ip {
		if (api.Target{Addr: src, Port: from}) != x.Target {
			return "", api.ErrDenied
		}
		return s, api.OK
	}
	if e := faultOf(s); e != api.OK {
		return "", e
	}
	if four(s[16:]) != x.Own {
		return "", api.ErrDenied
	}
	if s[8] < 2 {
		return "", api.ErrRange
	}
	return hopped(s), api.OK
}

// packOf is what Pack must answer.
func packOf(e api.Emit) string {
	for _, port := range []int{e.Port, e.To} {
		if port < 0 || port > math.MaxUint16 {
			return ""
		}
	}
	b := make([]byte, 9)
	if e.Ip {
		b[0] = 1
	}
	binary.BigEndian.PutUint16(b[1:], uint16(e.Port))
	binary.BigEndian.PutUint16(b[3:], uint16(e.To))
	binary.BigEndian.PutUint32(b[5:], e.Addr)
	return string(b) + e.Data
}

// unpackOf is what Unpack must answer.
func unpackOf(s string) (api.Emit, api.Errno) {
	switch {
	case len(s) <= 8:
		return api.Emit{}, api.ErrShort
	case s[0] > 1:
		return api.Emit{}, api.ErrField
	}
	two := func(place int) int { return int(binary.BigEndian.Uint16([]byte(s[place:]))) }
	return api.Emit{Ip: s[0] == 1, Port: two(1), To: two(3), Addr: four(s[5:]), Data: s[9:]}, api.OK
}

// spare is what lies in the room behind the rules' end.
var spare = []api.Rule{rule(true, 0, 0, 0), rule(false, 17, host, 32)}

// handed is a tunnel whose rules have room behind their end, as it is handed in.
func handed(x tunnel.Tunnel) tunnel.Tunnel {
	x.Rules = append(slices.Clone(x.Rules), spare...)[:len(x.Rules)]
	return x
}

// wantKept asks that a tunnel's rules were not changed, nor the room behind their end.
func wantKept(t *testing.T, name string, given, x tunnel.Tunnel) {
	t.Helper()
	n := len(x.Rules)
	if !slices.Equal(given.Rules, x.Rules) || !slices.Equal(given.Rules[n:n+len(spare)], spare) {
		t.Fatalf("%s: the rules were changed", name)
	}
}

// holdOpen asks Open for what the test's own reader says.
func holdOpen(t *testing.T, name string, x tunnel.Tunnel) api.Errno {
	t.Helper()
	given := handed(x)
	e, want := given.Open(), openOf(x)
	if e != want {
		t.Fatalf("%s: Open of %+v is %d, want %d", name, x, e, want)
	}
	wantKept(t, name, given, x)
	return e
}

// holdUp asks Up likewise, and that of what goes promise 22.5 holds.
func holdUp(t *testing.T, name string, x tunnel.Tunnel, s string) (api.Emit, api.Errno) {
	t.Helper()
	given := handed(x)
	out, e := given.Up(s)
	if want, fault := upOf(x, s); out != want || e != fault {
		t.Fatalf("%s: Up(%.60x) of %+v is %.200v, %d; want %.200v, %d", name, s, x, out, e, want, fault)
	}
	wantKept(t, name, given, x)
	if e == api.OK {
		holdPolicy(t, name, x, s, out)
		holdPack(t, name, out)
	}
	return out, e
}

// holdDown asks Down likewise.
func holdDown(t *testing.T, name string, x tunnel.Tunnel, src uint32, from int, s string) (string, api.Errno) {
	t.Helper()
	given := handed(x)
	out, e := given.Down(src, from, s)
	if want, fault := downOf(x, src, from, s); out != want || e != fault {
		t.Fatalf("%s: Down(%#x, %d, %.60x) of %+v is %.60x, %d; want %.60x, %d", name, src, from, s, x, out, e, want, fault)
	}
	wantKept(t, name, given, x)
	return out, e
}

// holdPack asks Pack likewise, and that Unpack of it is the emission.
func holdPack(t *testing.T, name string, e api.Emit) string {
	t.Helper()
	s, want := tunnel.Pack(e), packOf(e)
	if s != want {
		t.Fatalf("%s: Pack of %.200v is %.60x, want %.60x", name, e, s, want)
	}
	if s == "" {
		return s
	}
	if again, fault := tunnel.Unpack(s); again != e || fault != api.OK {
		t.Fatalf("%s: Unpack of Pack of %.200v is %.200v, %d", name, e, again, fault)
	}
	return s
}

// holdUnpack asks Unpack likewise, and that Pack of it is the bytes.
func holdUnpack(t *testing.T, name string, s string) (api.Emit, api.Errno) {
	t.Helper()
	e, fault := tunnel.Unpack(s)
	if want, wrong := unpackOf(s); e != want || fault != wrong {
		t.Fatalf("%s: Unpack of %.60x is %.200v, %d; want %.200v, %d", name, s, e, fault, want, wrong)
	}
	if fault != api.OK {
		return e, fault
	}
	if again := tunnel.Pack(e); again != s {
		t.Fatalf("%s: Pack of Unpack of %.60x is %.60x", name, s, again)
	}
	return e, fault
}
