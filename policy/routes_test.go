package policy_test

import (
	"math"
	"slices"
	"testing"

	"vizard/api"
	"vizard/capsule"
	"vizard/policy"
)

const last = math.MaxUint32

// TestRoutesExample is promise 18.2 of the chapter's example.
func TestRoutesExample(t *testing.T) {
	wantRoutes(t, "the example", example(), route(0x0A000000, 0x0A000000), route(0x0A000002, 0x0A000003))
	wantForm(t, example())
}

// TestRoutesWhole is promise 18.2 of rules that allow all addresses, none, and those at the ends alone.
func TestRoutesWhole(t *testing.T) {
	all, none := rule(true, 0, 0, 0), rule(false, 0, 0, 0)
	wantRoutes(t, "no rules", nil)
	wantRoutes(t, "none of length 0", []api.Rule{})
	wantRoutes(t, "all", []api.Rule{all}, route(0, last))
	wantRoutes(t, "all, of one protocol and one port", []api.Rule{ports(rule(true, 255, 0, 0), 65535, 65535)}, route(0, last))
	wantRoutes(t, "all, of the port 0", []api.Rule{ports(rule(true, 1, 0, 0), 0, 0)}, route(0, last))
	wantRoutes(t, "none", []api.Rule{none})
	wantRoutes(t, "none ahead of all", []api.Rule{none, all})
	wantRoutes(t, "all ahead of none", []api.Rule{all, none}, route(0, last))
	wantRoutes(t, "both halves", []api.Rule{rule(true, 0, 0, 1), rule(true, 17, 1<<31, 1)}, route(0, last))
	wantRoutes(t, "both halves, the second first", []api.Rule{rule(true, 6, 1<<31, 1), rule(true, 17, 0, 1)}, route(0, last))
	wantRoutes(t, "the first half", []api.Rule{rule(true, 0, 0, 1)}, route(0, last>>1))
	wantRoutes(t, "the second half", []api.Rule{rule(true, 0, 1<<31, 1)}, route(1<<31, last))
	wantRoutes(t, "the first address", []api.Rule{rule(true, 0, 0, 32)}, route(0, 0))
	wantRoutes(t, "the last address", []api.Rule{rule(true, 0, last, 32)}, route(last, last))
	wantRoutes(t, "both", []api.Rule{rule(true, 0, last, 32), rule(true, 0, 0, 32)}, route(0, 0), route(last, last))
	wantRoutes(t, "all but the first", []api.Rule{rule(false, 0, 0, 32), all}, route(1, last))
	wantRoutes(t, "all but the last", []api.Rule{rule(false, 0, last, 32), all}, route(0, last-1))
	wantRoutes(t, "all but both", []api.Rule{rule(false, 0, last, 32), rule(false, 0, 0, 32), all}, route(1, last-1))
	wantRoutes(t, "all but one within", []api.Rule{rule(false, 0, host, 32), all}, route(0, host-1), route(host+1, last))
}

// TestRoutesJoin is promise 18.2 of neighbours, which are one route, whatever says yes to them.
func TestRoutesJoin(t *testing.T) {
	wantRoutes(t, "two", []api.Rule{rule(true, 0, 4, 32), rule(true, 0, 5, 32)}, route(4, 5))
	wantRoutes(t, "two, the second first", []api.Rule{rule(true, 0, 5, 32), rule(true, 0, 4, 32)}, route(4, 5))
	wantRoutes(t, "two that are no prefix", []api.Rule{rule(true, 0, 6, 32), rule(true, 0, 5, 32)}, route(5, 6))
	wantRoutes(t, "two of other protocols and ports", []api.Rule{ports(rule(true, 17, 5, 32), 53, 53), ports(rule(true, 6, 6, 32), 443, 444)}, route(5, 6))
	wantRoutes(t, "of other sizes", []api.Rule{rule(true, 0, 4, 30), rule(true, 0, 8, 29), rule(true, 0, 3, 32), rule(true, 0, 16, 32)}, route(3, 16))
	wantRoutes(t, "one apart", []api.Rule{rule(true, 0, 4, 32), rule(true, 0, 6, 32)}, route(4, 4), route(6, 6))
	wantRoutes(t, "the same twice", []api.Rule{rule(true, 0, 4, 30), rule(true, 6, 4, 30)}, route(4, 7))
	wantRoutes(t, "the last two", []api.Rule{rule(true, 0, last, 32), rule(true, 0, last-1, 32)}, route(last-1, last))
	wantRoutes(t, "the first two", []api.Rule{rule(true, 0, 1, 32), rule(true, 0, 0, 32)}, route(0, 1))
	wantRoutes(t, "the ends of the whole do not touch", []api.Rule{rule(true, 0, 0, 31), rule(true, 0, last-1, 31)}, route(0, 1), route(last-1, last))
	var l []api.Rule
	for i := range uint32(32) {
		l = append(l, rule(true, int(i), host+i*7%32, 32))
	}
	wantRoutes(t, "32 of them", l, route(host, host+31))
}

// TestRoutesWithin is promise 18.2 of prefixes within others.
func TestRoutesWithin(t *testing.T) {
	outer, inner := rule(true, 0, 0x0A000000, 8), rule(true, 0, 0x0A010000, 16)
	noInner, noHost := rule(false, 0, 0x0A010000, 16), rule(false, 0, 0x0A010001, 32)
	wantRoutes(t, "both yes", []api.Rule{outer, inner}, route(0x0A000000, 0x0Affffff))
	wantRoutes(t, "both yes, the inner one first", []api.Rule{inner, outer}, route(0x0A000000, 0x0Affffff))
	wantRoutes(t, "the inner one no, ahead", []api.Rule{noInner, outer}, route(0x0A000000, 0x0A00ffff), route(0x0A020000, 0x0Affffff))
	wantRoutes(t, "the inner one no, behind", []api.Rule{outer, noInner}, route(0x0A000000, 0x0Affffff))
	wantRoutes(t, "the inner one alone", []api.Rule{inner, rule(false, 0, 0x0A000000, 8)}, route(0x0A010000, 0x0A01ffff))
	wantRoutes(t, "three", []api.Rule{noHost, inner, rule(false, 0, 0x0A000000, 8), rule(true, 0, 0, 0)}, route(0, 0x09ffffff), route(0x0A010000, 0x0A010000), route(0x0A010002, 0x0A01ffff), route(0x0B000000, last))
	wantRoutes(t, "an inner one at the beginning", []api.Rule{rule(false, 0, 0x0A000000, 16), outer}, route(0x0A010000, 0x0Affffff))
	wantRoutes(t, "an inner one at the end", []api.Rule{rule(false, 0, 0x0Aff0000, 16), outer}, route(0x0A000000, 0x0Afeffff))
	// Every second size says no, the least one first.
	var l []api.Rule
	for bits := 32; bits > 0; bits-- {
		l = append(l, rule(bits%2 == 0, 0, 0, bits))
	}
	want := []capsule.Route{route(0, 0)}
	for low := uint32(2); low < 1<<30; low *= 4 {
		want = append(want, route(low, 2*low-1))
	}
	wantRoutes(t, "nested", l, want...)
	wantForm(t, l)
}

// evens is rules that allow so many single addresses that do not touch.
func evens(n int) (l []api.Rule) {
	for i := range n {
		l = append(l, rule(true, i%3*17/2, host+2*uint32(i), 32))
	}
	return l
}

// singles is the routes of them.
func singles(n int) (l []capsule.Route) {
	for i := range n {
		l = append(l, route(host+2*uint32(i), host+2*uint32(i)))
	}
	return l
}

// TestRoutesMany is promise 18.2 of 15, 16 and more routes: the first 16, the last of which is still whole.
func TestRoutesMany(t *testing.T) {
	for _, n := range []int{1, 2, 14, 15, 16, 17, 18, 31, 32} {
		l := evens(n)
		wantRoutes(t, "single addresses", l, singles(min(n, 16))...)
		slices.Reverse(l)
		wantRoutes(t, "single addresses, the last first", l, singles(min(n, 16))...)
		wantForm(t, l)
	}
	sixteenth := uint32(host + 30)
	wide := append(singles(15), route(sixteenth, sixteenth+1))
	wantRoutes(t, "a neighbour of the last one", append(evens(16), rule(true, 0, sixteenth+1, 32)), wide...)
	wantRoutes(t, "a neighbour of the last one, and one more", append(evens(16), rule(true, 0, sixteenth+1, 32), rule(true, 0, sixteenth+3, 32)), wide...)
	wantRoutes(t, "one ahead of all", append(evens(16), rule(true, 0, 0, 32)), append([]capsule.Route{route(0, 0)}, singles(15)...)...)
	wantRoutes(t, "one that joins two", append(evens(17), rule(true, 0, host+1, 32)), append([]capsule.Route{route(host, host+2)}, singles(17)[2:]...)...)
	no := evens(31)
	for i := range no {
		no[i].Allow, no[i].Proto = false, 0
	}
	var gaps []capsule.Route
	for i := range uint32(16) {
		gaps = append(gaps, route(host+2*i-1, host+2*i-1))
	}
	gaps[0].Low = 0
	wantRoutes(t, "32 gaps", append(no, rule(true, 0, 0, 0)), gaps...)
	wantRoutes(t, "15 gaps", append(no[:14:14], rule(true, 0, 0, 0)), append(gaps[:14:14], route(host+27, last))...)
	wantRoutes(t, "16 gaps", append(no[:15:15], rule(true, 0, 0, 0)), append(gaps[:15:15], route(host+29, last))...)
	wantRoutes(t, "17 gaps", append(no[:16:16], rule(true, 0, 0, 0)), gaps...)
}

// TestRoutesFaulty is promise 18.2 of rules that are not right, and of too many: none.
func TestRoutesFaulty(t *testing.T) {
	yes := rule(true, 0, 0, 0)
	for name, r := range faulty() {
		wantRoutes(t, name, []api.Rule{r})
		wantRoutes(t, name, []api.Rule{yes, r})
		wantRoutes(t, name, []api.Rule{r, yes})
		wantRoutes(t, name, append(row(31), r))
		wantRoutes(t, name, append(row(32), r))
	}
	for name, r := range sound() {
		wantSame(t, name, []api.Rule{r})
		wantSame(t, name, []api.Rule{r, yes})
		wantSame(t, name, []api.Rule{yes, r})
	}
	wantRoutes(t, "32 rules", slices.Repeat([]api.Rule{yes}, 32), route(0, last))
	for _, n := range []int{33, 34, 64, 1000, 100000} {
		if routes := policy.Routes(slices.Repeat([]api.Rule{yes}, n)); len(routes) != 0 {
			t.Errorf("Routes of %d rules are %v", n, routes)
		}
	}
}

// TestRoutesSplitPorts is promise 18.2 of rules that split the ports among them: all, or all but one, are denied ahead of a rule that allows.
func TestRoutesSplitPorts(t *testing.T) {
	yes, no := rule(true, 17, host, 32), rule(false, 17, host, 32)
	here := route(host, host)
	wantRoutes(t, "two halves", []api.Rule{ports(no, 0, 32767), ports(no, 32768, 65535), yes})
	wantRoutes(t, "two halves, any protocol behind", []api.Rule{ports(no, 0, 32767), ports(no, 32768, 65535), rule(true, 0, host, 32)}, here)
	wantRoutes(t, "any protocol is denied in halves", []api.Rule{ports(rule(false, 0, host, 32), 0, 32767), ports(no, 32768, 65535), yes})
	wantRoutes(t, "two that overlap", []api.Rule{ports(no, 30000, 65535), ports(no, 0, 40000), yes})
	for _, open := range []int{1, 2, 53, 32767, 32768, 65533, 65534} {
		wantRoutes(t, "one port within", []api.Rule{ports(no, 0, open-1), ports(no, open+1, 65535), yes}, here)
		wantRoutes(t, "one port within, the higher ones first", []api.Rule{ports(no, open+1, 65535), ports(no, 0, open-1), yes}, here)
		wantRoutes(t, "that port alone is allowed", []api.Rule{ports(no, open+1, 65535), ports(no, 0, open-1), ports(yes, open, open)}, here)
		wantRoutes(t, "its neighbours alone are allowed", []api.Rule{ports(no, open+1, 65535), ports(no, 0, open-1), ports(yes, 0, open-1), ports(yes, open+1, 65535)})
		wantRoutes(t, "it is denied as well", []api.Rule{ports(no, 0, open-1), ports(no, open+1, 65535), ports(no, open, open), yes})
	}
	wantRoutes(t, "the port 0", []api.Rule{ports(no, 1, 65535), yes}, here)
	wantRoutes(t, "the port 65535", []api.Rule{ports(no, 0, 65534), yes}, here)
	wantRoutes(t, "the port 0, but it is not allowed", []api.Rule{ports(no, 1, 65535), ports(yes, 1, 65535)})
	wantRoutes(t, "the port 65535, but it is not allowed", []api.Rule{ports(no, 0, 65534), ports(yes, 0, 65534)})
	// 31 parts that are not in order, of which each in turn is left out.
	for open := -1; open < 31; open++ {
		var l []api.Rule
		for i := range 31 {
			part := i * 12 % 31
			if part != open {
				l = append(l, ports(no, part*2115, min(part*2115+2114, 65535)))
			}
		}
		if open < 0 {
			wantRoutes(t, "all parts", append(l, yes))
			continue
		}
		wantRoutes(t, "all parts but one", append(l, yes), here)
	}
}

// TestRoutesSplitProtocols is promise 18.2 of rules that name many protocols: there is always one that none names.
func TestRoutesSplitProtocols(t *testing.T) {
	here := route(host, host)
	for _, first := range []int{1, 2, 100, 224, 225} {
		var no []api.Rule
		for i := range 31 {
			no = append(no, rule(false, first+i, host, 32))
		}
		wantRoutes(t, "others are allowed", append(no, rule(true, 0, host, 32)), here)
		wantRoutes(t, "the first is allowed, behind", append(no, rule(true, first, host, 32)))
		wantRoutes(t, "the last is allowed, behind", append(no, rule(true, first+30, host, 32)))
		no[17].Allow = true
		wantRoutes(t, "one of them is allowed", no, here)
		wantRoutes(t, "one of them is allowed, then none", append(no, rule(false, 0, host, 32)), here)
		wantRoutes(t, "none, then one of them is allowed", append([]api.Rule{rule(false, 0, host, 32)}, no...))
		no[17] = ports(no[17], 7, 7)
		wantRoutes(t, "one of them is allowed at one port", no, here)
		wantRoutes(t, "that port is denied", append([]api.Rule{ports(rule(false, 0, host, 32), 7, 7)}, no...))
		wantRoutes(t, "that port is denied to its protocol", append([]api.Rule{ports(rule(false, first+17, host, 32), 7, 7)}, no...))
		wantRoutes(t, "that port is denied to another", append([]api.Rule{ports(rule(false, first+18, host, 32), 7, 7)}, no...), here)
	}
	for proto := 1; proto <= 255; proto++ {
		wantRoutes(t, "one protocol", []api.Rule{rule(true, proto, host, 32)}, here)
		wantRoutes(t, "one protocol, denied", []api.Rule{rule(false, proto, host, 32), rule(true, proto, host, 32)})
		wantRoutes(t, "all but one protocol", []api.Rule{rule(false, proto, host, 32), rule(true, 0, host, 32)}, here)
	}
}

// TestRoutesPortsOfProtocols is promise 18.2 of ports that are told apart for one protocol, and matter for it alone.
func TestRoutesPortsOfProtocols(t *testing.T) {
	here := route(host, host)
	lower, upper := span{0, 99}, span{100, 65535}
	no := func(proto int, s span) api.Rule { return ports(rule(false, proto, host, 32), s.low, s.high) }
	yes := func(proto int, s span) api.Rule { return ports(rule(true, proto, host, 32), s.low, s.high) }
	wantRoutes(t, "each has its half", []api.Rule{no(6, lower), no(17, upper), yes(6, lower), yes(17, upper)})
	wantRoutes(t, "each has the other half", []api.Rule{no(6, lower), no(17, upper), yes(6, upper), yes(17, lower)}, here)
	wantRoutes(t, "one has the other half", []api.Rule{no(6, lower), no(17, upper), yes(6, lower), yes(17, lower)}, here)
	wantRoutes(t, "any has a half", []api.Rule{no(0, lower), no(17, upper), yes(17, span{0, 65535})})
	wantRoutes(t, "any has a half, another is allowed", []api.Rule{no(0, lower), no(17, upper), yes(6, span{0, 65535})}, here)
	wantRoutes(t, "another address's ports", []api.Rule{ports(rule(false, 17, host+1, 32), 5, 5), no(17, lower), no(17, upper), yes(17, span{0, 65535})})
	wantRoutes(t, "each address has its own", []api.Rule{no(17, lower), ports(rule(false, 17, host+1, 32), 100, 65535), ports(rule(true, 17, 0x0A000000, 30), 0, 99)}, route(0x0A000000, 0x0A000000), route(0x0A000002, 0x0A000003))
}
