package target_test

import (
	"slices"
	"strings"
	"testing"

	"vizard/api"
	"vizard/target"
)

// TestExamples is promise 17.1 at the chapter's examples.
func TestExamples(t *testing.T) {
	wantOrdinary(t, "the example", forPayloads())
	wantStatus(t, "port 0", with(forPayloads(), ":path", "/.well-known/masque/udp/192.0.2.6/0/"), 404)
	wantStatus(t, "port 0443", with(forPayloads(), ":path", "/.well-known/masque/udp/192.0.2.6/0443/"), 404)
	wantStatus(t, "GET", with(forPayloads(), ":method", "GET"), 405)
	wantStatus(t, "connect-tcp", with(forPayloads(), ":protocol", "connect-tcp"), 501)
	wantPackets(t, "packets", forPackets())
}

// TestNoFields is promise 17.1 of no fields, and of few.
func TestNoFields(t *testing.T) {
	wantStatus(t, "nil", nil, 400)
	wantStatus(t, "none", []api.Field{}, 400)
	wantStatus(t, "a field of nothing", []api.Field{{}}, 400)
	for count := range len(forPayloads()) {
		wantStatus(t, "the first ones", forPayloads()[:count], 400)
		wantStatus(t, "the last ones", forPayloads()[len(forPayloads())-count:], 400)
	}
	for _, f := range forPayloads() {
		wantStatus(t, "one alone", []api.Field{f}, 400)
	}
}

// TestNotRight is promise 17.1 of fields that are not right, one by one, at each place.
func TestNotRight(t *testing.T) {
	long := strings.Repeat("x", 257)
	for _, f := range []api.Field{
		{}, {Value: "a"}, {Name: "X"}, {Name: "a b"}, {Name: "a_b"}, {Name: "a\x00"}, {Name: "\u00e9"}, {Name: ":Path"}, {Name: long}, {Name: long, Value: long},
		{Name: "a", Value: long}, {Name: "a", Value: "\x1f"}, {Name: "a", Value: "\x7f"}, {Name: "a", Value: "\x80"}, {Name: "a", Value: "b\n"}, {Name: "a", Value: "\u00e9"},
	} {
		for place := range len(forPayloads()) + 1 {
			wantStatus(t, "one more that is not right", at(forPayloads(), place, f), 400)
			wantStatus(t, "one more that is not right, of packets", at(forPackets(), place, f), 400)
			wantStatus(t, "one more that is not right, with GET", at(with(forPayloads(), ":method", "GET"), place, f), 400)
		}
	}
	for _, f := range forPayloads() {
		for _, value := range []string{long, f.Value + "\n", "\x00" + f.Value, f.Value + "\x7f", "\xff"} {
			wantStatus(t, "a value that is not right", with(forPayloads(), f.Name, value), 400)
		}
	}
}

// TestSizes is promise 17.1 of fields at the edges of what is right: 16 of them, and 256 bytes.
func TestSizes(t *testing.T) {
	long := strings.Repeat("x", 256)
	wantOrdinary(t, "a long field", at(forPayloads(), 6, field(long, long)))
	wantOrdinary(t, "a long authority", with(forPayloads(), ":authority", long))
	wantStatus(t, "a longer authority", with(forPayloads(), ":authority", long+"x"), 400)
	wantStatus(t, "a long path", with(forPayloads(), ":path", long), 404)
	wantStatus(t, "a longer path", with(forPayloads(), ":path", long+"x"), 400)
	wantStatus(t, "a long method", with(forPayloads(), ":method", long), 405)
	wantStatus(t, "a longer method", with(forPayloads(), ":method", long+"x"), 400)
	wantStatus(t, "a long protocol", with(forPayloads(), ":protocol", long), 501)
	wantStatus(t, "a longer protocol", with(forPayloads(), ":protocol", long+"x"), 400)
	for count := 1; count <= 10; count++ {
		more := slices.Repeat([]api.Field{field("a", "b")}, count)
		wantOrdinary(t, "many fields", at(forPayloads(), 6, more...))
		wantPackets(t, "many fields, of packets", at(forPackets(), 5, more...))
	}
	for _, count := range []int{11, 12, 100, 100000} {
		more := slices.Repeat([]api.Field{field("a", "b")}, count)
		wantStatus(t, "too many fields", at(forPayloads(), 6, more...), 400)
		wantStatus(t, "too many fields, with GET", at(with(forPayloads(), ":method", "GET"), 6, more...), 400)
	}
}

// TestMissing is promise 17.1 with each name missing, there twice, and empty.
func TestMissing(t *testing.T) {
	empty := map[string]int{":method": 405, ":protocol": 501, ":scheme": 400, ":authority": 400, ":path": 404, "capsule-protocol": 400}
	for _, l := range [][]api.Field{forPayloads(), forPackets()} {
		for i, f := range l {
			wantStatus(t, f.Name+" missing", without(l, f.Name), 400)
			wantStatus(t, f.Name+" twice, side by side", at(l, i, f), 400)
			wantStatus(t, f.Name+" twice, first and last", at(at(without(l, f.Name), 0, f), len(l), f), 400)
			wantStatus(t, f.Name+" twice, with another value", at(l, i, field(f.Name, "other")), 400)
			wantStatus(t, f.Name+" twice, once empty", at(l, i+1, field(f.Name, "")), 400)
			wantStatus(t, f.Name+" three times", at(l, i, f, f), 400)
			wantStatus(t, f.Name+" empty", with(l, f.Name, ""), empty[f.Name])
			wantStatus(t, f.Name+" without its first sign", at(without(l, f.Name), 5, field(f.Name[1:], f.Value)), 400)
		}
	}
}

// TestMethods is promise 17.1 of methods, with a protocol and without one.
func TestMethods(t *testing.T) {
	for _, method := range []string{"", "GET", "connect", "Connect", "CONNECT ", " CONNECT", "CONNECTS", "CONNEC", "CONNECT-UDP", "POST", "?1", ":method"} {
		l := with(forPayloads(), ":method", method)
		wantStatus(t, method, l, 405)
		wantStatus(t, method+", with no protocol", without(l, ":protocol"), 405)
		wantStatus(t, method+", with an empty protocol", with(l, ":protocol", ""), 405)
		wantStatus(t, method+", with another protocol", with(l, ":protocol", "connect-tcp"), 405)
		wantStatus(t, method+", with two protocols", at(l, 2, field(":protocol", "connect-udp")), 400)
		wantStatus(t, method+", with no scheme", without(l, ":scheme"), 400)
		wantStatus(t, method+", with another scheme", with(l, ":scheme", "http"), 405)
		wantStatus(t, method+", with an empty authority", with(l, ":authority", ""), 405)
		wantStatus(t, method+", with another path", with(l, ":path", "/"), 405)
		wantStatus(t, method+", with no capsules", without(l, "capsule-protocol"), 405)
	}
	wantStatus(t, "CONNECT, with no protocol", without(forPayloads(), ":protocol"), 400)
}

// TestProtocols is promise 17.1 of protocols.
func TestProtocols(t *testing.T) {
	for _, protocol := range []string{"", "connect-tcp", "connect", "connect-", "connect-u", "connect-udp ", " connect-udp", "connect-udps", "connect-ips", "connect-i", "CONNECT-UDP", "Connect-Udp", "connect-UDP", "CONNECT-IP", "Connect-ip", "connect-IP", "connect_udp", "connect-udp-bind", "websocket", "udp", "ip", "CONNECT", "?1"} {
		wantStatus(t, protocol, with(forPayloads(), ":protocol", protocol), 501)
		wantStatus(t, protocol+", of packets", with(forPackets(), ":protocol", protocol), 501)
	}
	wantStatus(t, "a path of payloads with connect-ip", with(forPayloads(), ":protocol", "connect-ip"), 404)
	wantStatus(t, "a path of packets with connect-udp", with(forPackets(), ":protocol", "connect-udp"), 404)
}

// TestRest is promise 17.1 of schemes, authorities and capsule-protocol.
func TestRest(t *testing.T) {
	for _, scheme := range []string{"", "http", "HTTPS", "Https", "https ", " https", "https:", "httpss", "masque"} {
		wantStatus(t, "the scheme "+scheme, with(forPayloads(), ":scheme", scheme), 400)
		wantStatus(t, "the scheme "+scheme+", of packets", with(forPackets(), ":scheme", scheme), 400)
	}
	for _, authority := range []string{" ", "a", "proxy.example:443", "10.0.0.1", "https", "?0", "~", "/"} {
		wantOrdinary(t, "an authority", with(forPayloads(), ":authority", authority))
		wantPackets(t, "an authority", with(forPackets(), ":authority", authority))
	}
	for _, value := range []string{"", "?0", "?1 ", " ?1", "1", "?", "?11", "?1;a", "true", "??1"} {
		wantStatus(t, "capsule-protocol "+value, with(forPayloads(), "capsule-protocol", value), 400)
		wantStatus(t, "capsule-protocol "+value+", of packets", with(forPackets(), "capsule-protocol", value), 400)
	}
	for _, value := range []string{"?1", "?0", ""} {
		for _, place := range []int{5, 6} {
			wantStatus(t, "capsule-protocol twice", at(forPayloads(), place, field("capsule-protocol", value)), 400)
		}
	}
}

// TestStrangeNames is promise 17.1 of names that begin with a colon and are none of the five, at every place.
func TestStrangeNames(t *testing.T) {
	for _, name := range []string{":", "::", ":status", ":x", ":method-", ":methods", ":metho", "::method", ":path:", ":capsule-protocol", ":host", ":0", ":-"} {
		for place := range len(forPayloads()) + 1 {
			for _, l := range [][]api.Field{forPayloads(), forPackets(), with(forPayloads(), ":method", "GET"), with(forPayloads(), ":protocol", "connect-tcp"), with(forPayloads(), ":path", "/")} {
				wantStatus(t, name, at(l, place, field(name, "a")), 400)
			}
			wantStatus(t, name+", empty", at(forPayloads(), place, field(name, "")), 400)
			wantStatus(t, name+", twice", at(forPayloads(), place, field(name, ""), field(name, "")), 400)
		}
	}
	for _, name := range []string{"x", "method", "protocol", "path", "a:", "a:path", "-:", "0:", "status", "method:"} {
		wantOrdinary(t, name+", which is like any other", at(forPayloads(), 6, field(name, "a")))
		wantOrdinary(t, name+", right behind the five", at(forPayloads(), 5, field(name, "a")))
	}
}

// TestBehindOthers is promise 17.1 of a name that begins with a colon behind a field whose name does not.
func TestBehindOthers(t *testing.T) {
	for _, l := range [][]api.Field{forPayloads(), forPackets(), with(forPayloads(), ":method", "GET"), with(forPayloads(), ":protocol", "connect-tcp"), with(forPayloads(), ":path", "/")} {
		for place := range 5 {
			wantStatus(t, "another ahead of the rest", at(l, place, field("a", "b")), 400)
			wantStatus(t, "one like the next ahead of the rest", at(l, place, field(l[place].Name[1:], "b")), 400)
			wantStatus(t, "capsule-protocol ahead of the rest", at(l[:5], place, l[5]), 400)
			wantStatus(t, "one behind all", append(without(l, l[place].Name), l[place]), 400)
		}
	}
}

// TestOrders is promise 17.1 of fields in every order: the five in any, ahead of the others in any.
func TestOrders(t *testing.T) {
	right := 0
	for l := range orders(append(forPayloads(), field("a", "b"))) {
		_, status := asked(l)
		if status == 200 {
			right++
		}
		wantSame(t, "an order", l)
	}
	if right != 120*2 {
		t.Errorf("%d orders are right", right)
	}
	for l := range orders(forPackets()[:5]) {
		wantPackets(t, "an order of packets", append(slices.Clone(l), forPackets()[5]))
	}
}

// orders goes through all orders of fields. Each is over when the next one is asked for.
func orders(l []api.Field) func(func([]api.Field) bool) {
	return func(yield func([]api.Field) bool) { order(slices.Clone(l), 0, yield) }
}

func order(l []api.Field, first int, yield func([]api.Field) bool) bool {
	if first == len(l) {
		return yield(l)
	}
	for i := first; i < len(l); i++ {
		l[first], l[i] = l[i], l[first]
		more := order(l, first+1, yield)
		l[first], l[i] = l[i], l[first]
		if !more {
			return false
		}
	}
	return true
}

// TestOthers is promise 17.1 of other fields behind the five, there once and more often.
func TestOthers(t *testing.T) {
	for _, more := range [][]api.Field{
		{field("a", "b")}, {field("a", "b"), field("a", "b")}, {field("a", ""), field("b", ""), field("a", "c")},
		{field("user-agent", "x"), field("accept", "*/*")}, {field("content-type", "?0"), field("content-type", "?1")},
		{field("protocol", "connect-tcp")}, {field("path", "/"), field("path", "/")}, {field("capsule-protocol-", "?0")}, {field("status", "404")},
	} {
		for _, place := range []int{5, 6} {
			wantOrdinary(t, "others", at(forPayloads(), place, more...))
			wantPackets(t, "others, of packets", at(forPackets(), place, more...))
		}
	}
}

// TestArgumentsStay is R4: neither a list nor what lies behind its end is changed.
func TestArgumentsStay(t *testing.T) {
	for _, l := range [][]api.Field{forPayloads(), forPackets(), with(forPayloads(), ":path", "/"), at(forPayloads(), 6, field("X", ""))} {
		room := append(slices.Clone(l), field("behind", "1"), field("behind", "2"))
		before := slices.Clone(room)
		target.Parse(room[:len(l)])
		if !slices.Equal(room, before) {
			t.Errorf("Parse has changed %q", before)
		}
	}
	l := append(forPayloads(), field(":path", "/"))
	wantOrdinary(t, "what lies behind the end", l[:6])
}
