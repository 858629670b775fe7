package policy_test

import (
	"math"
	"slices"
	"testing"

	"vizard/api"
	"vizard/capsule"
	"vizard/policy"
)

// span is numbers from one to another.
type span struct{ low, high int }

// spanOf is the addresses of a prefix that is right.
func spanOf(p api.Prefix) span {
	return span{int(p.Addr), int(p.Addr) + 1<<(32-p.Bits) - 1}
}

func (s span) has(n int) bool {
	return n >= s.low && n <= s.high
}

// prefixRight is whether a prefix is right: its first address is a multiple of how many it has.
func prefixRight(p api.Prefix) bool {
	if p.Bits < 0 || p.Bits > 32 {
		return false
	}
	return uint64(p.Addr)%(1<<(32-p.Bits)) == 0
}

// wrongOf is what Check must answer.
func wrongOf(l []api.Rule) api.Errno {
	if len(l) > 32 {
		return api.ErrLong
	}
	ports, protos := span{0, 65535}, span{0, 255}
	if slices.ContainsFunc(l, func(r api.Rule) bool {
		return !prefixRight(r.To) || !protos.has(r.Proto) || !ports.has(r.From) || !ports.has(r.Upto) || r.From > r.Upto
	}) {
		return api.ErrRange
	}
	return api.OK
}

// allowed is what Allow must answer.
func allowed(l []api.Rule, proto int, dst uint32, port int) bool {
	if wrongOf(l) != api.OK {
		return false
	}
	first := slices.IndexFunc(l, func(r api.Rule) bool {
		return (r.Proto == proto || r.Proto == 0) && spanOf(r.To).has(int(dst)) && span{r.From, r.Upto}.has(port)
	})
	return first >= 0 && l[first].Allow
}

// cut is what is left of ports, rising, without those of a rule.
func cut(ports []span, away span) (left []span) {
	for _, s := range ports {
		if s.low < away.low {
			left = append(left, span{s.low, min(s.high, away.low-1)})
		}
		if s.high > away.high {
			left = append(left, span{max(s.low, away.high+1), s.high})
		}
	}
	return left
}

// openPorts is whether rules leave a port open for a protocol: rule by rule it looks at the ports of which none ahead of it has said something.
func openPorts(l []api.Rule, proto int) bool {
	undecided := []span{{0, 65535}}
	for _, r := range l {
		if r.Proto != 0 && r.Proto != proto {
			continue
		}
		left := cut(undecided, span{r.From, r.Upto})
		if r.Allow && !slices.Equal(left, undecided) {
			return true
		}
		undecided = left
	}
	return false
}

// reachedAll is whether a packet may go by rules, each of which fits its address.
func reachedAll(l []api.Rule) bool {
	for proto := 1; proto <= 255; proto++ {
		if openPorts(l, proto) {
			return true
		}
	}
	return false
}

// reachedIn puts the addresses of a prefix behind the spans, if packets may go there; it is halved for as long as a rule has a part of it alone.
func reachedIn(spans []span, l []api.Rule, p api.Prefix) []span {
	whole := spanOf(p)
	var near []api.Rule
	parted := false
	for _, r := range l {
		s := spanOf(r.To)
		if s.high < whole.low || s.low > whole.high {
			continue
		}
		near = append(near, r)
		parted = parted || s.low > whole.low || s.high < whole.high
	}
	if parted {
		spans = reachedIn(spans, near, api.Prefix{Addr: p.Addr, Bits: p.Bits + 1})
		return reachedIn(spans, near, api.Prefix{Addr: p.Addr | 1<<(31-p.Bits), Bits: p.Bits + 1})
	}
	if !reachedAll(near) {
		return spans
	}
	if n := len(spans); n > 0 && spans[n-1].high+1 == whole.low {
		spans[n-1].high = whole.high
		return spans
	}
	return append(spans, whole)
}

// spansOf is all addresses to which packets may go, however many spans they are.
func spansOf(l []api.Rule) []span {
	if wrongOf(l) != api.OK {
		return nil
	}
	return reachedIn(nil, l, api.Prefix{})
}

// routesOf is what Routes must answer.
func routesOf(l []api.Rule) (routes []capsule.Route) {
	for _, s := range spansOf(l) {
		if len(routes) < 16 {
			routes = append(routes, capsule.Route{Low: uint32(s.low), High: uint32(s.high)})
		}
	}
	return routes
}

// rule is one for all ports.
func rule(allow bool, proto int, addr uint32, bits int) api.Rule {
	return api.Rule{Allow: allow, Proto: proto, To: api.Prefix{Addr: addr, Bits: bits}, Upto: 65535}
}

// ports is a rule with other ports.
func ports(r api.Rule, from, upto int) api.Rule {
	r.From, r.Upto = from, upto
	return r
}

// route is one of all protocols.
func route(low, high uint32) capsule.Route {
	return capsule.Route{Low: low, High: high}
}

// example is the chapter's.
func example() []api.Rule {
	return []api.Rule{rule(false, 0, 0x0A000001, 32), ports(rule(true, 17, 0x0A000000, 30), 53, 53)}
}

// wantCheck asks Check, and holds what the test says against the test's own reader as well.
func wantCheck(t *testing.T, name string, l []api.Rule, want api.Errno) {
	t.Helper()
	if e := wrongOf(l); e != want {
		t.Fatalf("%s: the test says of %+v both %d and %d", name, l, want, e)
	}
	if e := policy.Check(l); e != want {
		t.Errorf("%s: Check of %+v is %d, want %d", name, l, e, want)
	}
}

// wantAllow asks Allow likewise.
func wantAllow(t *testing.T, name string, l []api.Rule, proto int, dst uint32, port int, want bool) {
	t.Helper()
	if yes := allowed(l, proto, dst, port); yes != want {
		t.Fatalf("%s: the test says of %+v, %d, %#x, %d both %v and %v", name, l, proto, dst, port, want, yes)
	}
	if yes := policy.Allow(l, proto, dst, port); yes != want {
		t.Errorf("%s: Allow of %+v, %d, %#x, %d is %v, want %v", name, l, proto, dst, port, yes, want)
	}
}

// wantRoutes asks Routes likewise.
func wantRoutes(t *testing.T, name string, l []api.Rule, want ...capsule.Route) {
	t.Helper()
	if routes := routesOf(l); !slices.Equal(routes, want) {
		t.Fatalf("%s: the test says of %+v both %v and %v", name, l, want, routes)
	}
	if routes := policy.Routes(l); !slices.Equal(routes, want) {
		t.Errorf("%s: Routes of %+v are %v, want %v", name, l, routes, want)
	}
}

// wantForm is that routes are as few as can be, rise, and are of all protocols; so that a capsule can tell them.
func wantForm(t *testing.T, l []api.Rule) {
	t.Helper()
	routes := policy.Routes(l)
	if len(routes) > 16 {
		t.Errorf("Routes of %+v are %d", l, len(routes))
	}
	for i, r := range routes {
		if r.Proto != 0 || r.Low > r.High {
			t.Errorf("Routes of %+v have %+v", l, r)
		}
		if i > 0 && int(routes[i-1].High)+1 >= int(r.Low) {
			t.Errorf("Routes of %+v have %+v and %+v", l, routes[i-1], r)
		}
	}
	if _, e := capsule.Tells(routes); e != api.OK {
		t.Errorf("Tells of the routes of %+v is %d", l, e)
	}
}

// wantSame asks all three calls for what the test's own readers say.
func wantSame(t *testing.T, name string, l []api.Rule) {
	t.Helper()
	wantCheck(t, name, l, wrongOf(l))
	wantRoutes(t, name, l, routesOf(l)...)
	wantForm(t, l)
	for _, p := range packetsOf(l) {
		wantAllow(t, name, l, p.proto, p.dst, p.port, allowed(l, p.proto, p.dst, p.port))
	}
}

// packet is what rules look at.
type packet struct {
	proto int
	dst   uint32
	port  int
}

// packetsOf is packets at the edges of each rule, and beside them.
func packetsOf(l []api.Rule) (packets []packet) {
	for _, r := range l {
		if !prefixRight(r.To) {
			continue
		}
		s := spanOf(r.To)
		for _, dst := range []int{s.low - 1, s.low, s.high, s.high + 1} {
			for _, port := range []int{r.From - 1, r.From, r.Upto, r.Upto + 1} {
				packets = append(packets, packet{r.Proto, uint32(dst), port}, packet{r.Proto + 1, uint32(dst), port})
			}
		}
	}
	return packets
}

// wholeAddrs is the addresses at the edges of the rules and of the whole, and beside them.
func wholeAddrs(l []api.Rule) []uint32 {
	addrs := []uint32{0, 1, 0x7fffffff, 0x80000000, math.MaxUint32 - 1, math.MaxUint32}
	for _, r := range l {
		s := spanOf(r.To)
		addrs = append(addrs, uint32(s.low-1), uint32(s.low), uint32(s.low+1), uint32(s.high-1), uint32(s.high), uint32(s.high+1))
	}
	slices.Sort(addrs)
	return slices.Compact(addrs)
}
