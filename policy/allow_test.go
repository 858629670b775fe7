package policy_test

import (
	"math"
	"math/rand"
	"slices"
	"testing"

	"vizard/api"
	"vizard/policy"
)

const host = 0x0A000001

// TestAllowExample is promise 18.1 of the chapter's example.
func TestAllowExample(t *testing.T) {
	for _, one := range []struct {
		proto int
		dst   uint32
		port  int
		yes   bool
	}{
		{17, 0x0A000002, 53, true}, {17, 0x0A000001, 53, false}, {6, 0x0A000002, 53, false},
		{17, 0x0A000000, 53, true}, {17, 0x0A000003, 53, true}, {17, 0x0A000004, 53, false}, {17, 0x09ffffff, 53, false},
		{17, 0x0A000002, 52, false}, {17, 0x0A000002, 54, false}, {0, 0x0A000002, 53, false}, {17, 0x0A000002, 0, false},
	} {
		wantAllow(t, "the example", example(), one.proto, one.dst, one.port, one.yes)
	}
}

// TestAllowNone is promise 18.1 of no rules, and of none that fits.
func TestAllowNone(t *testing.T) {
	for _, l := range [][]api.Rule{nil, {}, {rule(false, 0, 0, 0)}, {rule(false, 17, host, 32)}, {rule(true, 17, host+1, 32)}, {rule(true, 6, host, 32)}, {ports(rule(true, 17, host, 32), 54, 65535)}, {ports(rule(true, 17, host, 32), 0, 52)}} {
		wantAllow(t, "none that says yes", l, 17, host, 53, false)
	}
}

// TestAllowProtocols is promise 18.1 of protocols: 0 in a rule is any, 0 in a packet is one as another.
func TestAllowProtocols(t *testing.T) {
	all := []int{math.MinInt, -256, -17, -1, 0, 1, 6, 16, 17, 18, 254, 255, 256, 256 + 17, 1<<32 + 17, math.MaxInt}
	for _, proto := range all {
		wantAllow(t, "any", []api.Rule{rule(true, 0, 0, 0)}, proto, host, 53, true)
		wantAllow(t, "any, but no", []api.Rule{rule(false, 0, 0, 0), rule(true, 0, 0, 0)}, proto, host, 53, false)
		for _, of := range []int{1, 6, 17, 254, 255} {
			wantAllow(t, "one", []api.Rule{rule(true, of, 0, 0)}, proto, host, 53, proto == of)
			wantAllow(t, "all but one", []api.Rule{rule(false, of, 0, 0), rule(true, 0, 0, 0)}, proto, host, 53, proto != of)
		}
	}
	for rules := range 256 {
		for proto := -2; proto < 260; proto++ {
			wantAllow(t, "each protocol", []api.Rule{rule(true, rules, host, 32)}, proto, host, 0, rules == 0 || rules == proto)
		}
	}
}

// TestAllowAddresses is promise 18.1 of each size of a prefix: its ends, and beside them.
func TestAllowAddresses(t *testing.T) {
	for bits := range 33 {
		for _, in := range []uint32{0, host, 0x7fffffff, 0x80000000, 0xC0000206, 0xffffffff} {
			addr := uint32(uint64(in) >> (32 - bits) << (32 - bits))
			l := []api.Rule{rule(true, 17, addr, bits)}
			s := spanOf(l[0].To)
			wantAllow(t, "an address in it", l, 17, in, 53, true)
			wantAllow(t, "the first", l, 17, uint32(s.low), 53, true)
			wantAllow(t, "the last", l, 17, uint32(s.high), 53, true)
			if s.low > 0 {
				wantAllow(t, "ahead of the first", l, 17, uint32(s.low-1), 53, false)
			}
			if s.high < math.MaxUint32 {
				wantAllow(t, "behind the last", l, 17, uint32(s.high+1), 53, false)
			}
		}
	}
}

// TestAllowPorts is promise 18.1 of ports at a rule's edges, and of those that are none.
func TestAllowPorts(t *testing.T) {
	for _, one := range []span{{0, 0}, {0, 1}, {0, 65535}, {1, 1}, {53, 53}, {53, 54}, {1, 65534}, {65534, 65535}, {65535, 65535}} {
		yes := []api.Rule{ports(rule(true, 17, host, 32), one.low, one.high)}
		no := []api.Rule{ports(rule(false, 17, host, 32), one.low, one.high), rule(true, 0, 0, 0)}
		for _, port := range []int{math.MinInt, -65536, -1, 0, 1, 2, 52, 53, 54, 55, 65533, 65534, 65535, 65536, 65536 + 53, 1<<32 + 53, math.MaxInt} {
			wantAllow(t, "ports that are allowed", yes, 17, host, port, one.has(port))
			wantAllow(t, "ports that are denied", no, 17, host, port, !one.has(port) && port >= 0 && port <= 65535)
		}
	}
}

// TestAllowFirst is promise 18.1 of several rules that fit: the first one says it.
func TestAllowFirst(t *testing.T) {
	fitting := []func(allow bool) api.Rule{
		func(allow bool) api.Rule { return rule(allow, 0, 0, 0) },
		func(allow bool) api.Rule { return rule(allow, 17, 0, 0) },
		func(allow bool) api.Rule { return rule(allow, 0, 0x0A000000, 8) },
		func(allow bool) api.Rule { return rule(allow, 17, host, 32) },
		func(allow bool) api.Rule { return ports(rule(allow, 17, host, 32), 53, 53) },
		func(allow bool) api.Rule { return ports(rule(allow, 0, 0x0A000000, 30), 0, 53) },
	}
	others := []api.Rule{rule(true, 6, 0, 0), rule(false, 6, 0, 0), rule(true, 0, host+1, 32), rule(false, 0, host+1, 32), ports(rule(true, 17, host, 32), 54, 65535), ports(rule(false, 0, host, 32), 0, 52)}
	for _, first := range fitting {
		for _, second := range fitting {
			for _, yes := range []bool{true, false} {
				l := []api.Rule{first(yes), second(!yes)}
				wantAllow(t, "two that fit", l, 17, host, 53, yes)
				for _, other := range others {
					for place := range 3 {
						wantAllow(t, "one that does not fit beside them", slices.Insert(slices.Clone(l), place, other), 17, host, 53, yes)
					}
				}
				wantAllow(t, "many that do not fit ahead of them", append(slices.Concat(others, others, others, others, others), l...), 17, host, 53, yes)
			}
		}
	}
}

// TestAllowAnyAndOne is promise 18.1 of a rule of protocol 0 ahead of and behind one of a protocol.
func TestAllowAnyAndOne(t *testing.T) {
	anyYes, anyNo, oneYes, oneNo := rule(true, 0, host, 32), rule(false, 0, host, 32), rule(true, 17, host, 32), rule(false, 17, host, 32)
	for _, one := range []struct {
		l             []api.Rule
		same, another bool
	}{
		{[]api.Rule{anyYes, oneNo}, true, true}, {[]api.Rule{oneNo, anyYes}, false, true},
		{[]api.Rule{anyNo, oneYes}, false, false}, {[]api.Rule{oneYes, anyNo}, true, false},
		{[]api.Rule{anyYes, oneYes}, true, true}, {[]api.Rule{oneNo, anyNo}, false, false},
	} {
		wantAllow(t, "the protocol", one.l, 17, host, 53, one.same)
		for _, proto := range []int{-1, 0, 1, 6, 255, 256} {
			wantAllow(t, "another protocol", one.l, proto, host, 53, one.another)
		}
	}
}

// TestAllowFaulty is promise 18.1 of rules that are not right: no, whatever those ahead of the fault say.
func TestAllowFaulty(t *testing.T) {
	yes := rule(true, 0, 0, 0)
	for name, r := range faulty() {
		for _, l := range [][]api.Rule{{r}, {yes, r}, {r, yes}, {yes, r, yes}, append(slices.Repeat([]api.Rule{yes}, 31), r)} {
			for _, proto := range []int{-1, 0, 1, 17, 255, 256, r.Proto} {
				for _, port := range []int{-1, 0, 53, 65535, 65536, r.From, r.Upto} {
					wantAllow(t, name, l, proto, 0x0A000001, port, false)
					wantAllow(t, name, l, proto, r.To.Addr, port, false)
				}
			}
		}
	}
	wantAllow(t, "32 rules", slices.Repeat([]api.Rule{yes}, 32), 17, host, 53, true)
	for _, n := range []int{33, 34, 64, 1000, 100000} {
		if policy.Allow(slices.Repeat([]api.Rule{yes}, n), 17, host, 53) {
			t.Errorf("Allow of %d rules is yes", n)
		}
	}
}

// TestAllowRandom is promise 18.1 of random rules and packets.
func TestAllowRandom(t *testing.T) {
	random := rand.New(rand.NewSource(181))
	for range 3000 {
		l := randomRules(random)
		for range 50 {
			p := packet{random.Intn(8) - 1, uint32(random.Intn(40)), random.Intn(12) - 1}
			wantAllow(t, "random", l, p.proto, p.dst, p.port, allowed(l, p.proto, p.dst, p.port))
		}
	}
}

// randomRules is rules that are near one another, so that many of them fit; now and then one is not right, or they are too many.
func randomRules(random *rand.Rand) (l []api.Rule) {
	size := random.Intn(33)
	if random.Intn(20) == 0 {
		size = 33
	}
	for range size {
		bits := 32 - random.Intn(6)
		from := random.Intn(8)
		r := ports(rule(random.Intn(2) == 0, random.Intn(5), uint32(random.Intn(32))>>(32-bits)<<(32-bits), bits), from, from+random.Intn(8))
		if random.Intn(4) == 0 {
			r.Upto = 65535
		}
		if random.Intn(400) == 0 {
			r.To.Addr++
		}
		l = append(l, r)
	}
	return l
}
