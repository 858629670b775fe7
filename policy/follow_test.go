package policy_test

import (
	"fmt"
	"math"
	"math/rand"
	"slices"
	"testing"

	"vizard/api"
	"vizard/capsule"
	"vizard/policy"
)

// someAllowed asks Allow itself, of every protocol and of the ports given, whether a packet may go to an address.
func someAllowed(l []api.Rule, dst uint32, ports []int) bool {
	for proto := 1; proto <= 255; proto++ {
		for _, port := range ports {
			if policy.Allow(l, proto, dst, port) {
				return true
			}
		}
	}
	return false
}

func inRoutes(routes []capsule.Route, dst uint32) bool {
	return slices.ContainsFunc(routes, func(r capsule.Route) bool { return r.Low <= dst && dst <= r.High })
}

// TestRoutesAreWhatAllowSays is promise 18.2: each address in a route has a protocol and a port that Allow says yes to, and each other one has none.
func TestRoutesAreWhatAllowSays(t *testing.T) {
	random := rand.New(rand.NewSource(182))
	// The random rules end at ports up to 14, or at the last one.
	var told []int
	for port := range 17 {
		told = append(told, port)
	}
	told = append(told, 65534, 65535)
	for range 150 {
		l := randomRules(random)
		routes := policy.Routes(l)
		behind := uint32(40)
		if len(routes) == 16 {
			behind = routes[15].High + 1
		}
		for dst := range behind {
			if in, yes := inRoutes(routes, dst), someAllowed(l, dst, told); in != yes {
				t.Errorf("%#x is in a route of %+v: %v; Allow says %v", dst, l, in, yes)
			}
		}
	}
}

// TestEveryPortOfRoutes is promise 18.2 where it hangs on a single port of all there are.
func TestEveryPortOfRoutes(t *testing.T) {
	for _, open := range []int{0, 1, 53, 65534, 65535} {
		var l []api.Rule
		if open > 0 {
			l = append(l, ports(rule(false, 0, host, 32), 0, open-1))
		}
		if open < 65535 {
			l = append(l, ports(rule(false, 0, host, 32), open+1, 65535))
		}
		l = append(l, rule(true, 17, host, 32))
		for port := range 65536 {
			if yes := policy.Allow(l, 17, host, port); yes != (port == open) {
				t.Errorf("Allow of the port %d, where %d is open: %v", port, open, yes)
			}
		}
		wantRoutes(t, "one port is open", l, route(host, host))
		wantRoutes(t, "that one is denied, too", append([]api.Rule{ports(rule(false, 17, host, 32), open, open)}, l...))
	}
}

// wantFollows is promise 18.3: to an address that is in no route nothing may go, if there are fewer than 16 routes.
func wantFollows(t *testing.T, l []api.Rule) {
	t.Helper()
	routes := policy.Routes(l)
	if len(routes) >= 16 {
		return
	}
	protos, told := []int{math.MinInt, -1, 0, 1, 255, 256, math.MaxInt}, []int{math.MinInt, -1, 0, 65535, 65536, math.MaxInt}
	for _, r := range l {
		protos = append(protos, r.Proto, r.Proto+1)
		told = append(told, r.From-1, r.From, r.Upto, r.Upto+1)
	}
	slices.Sort(protos)
	slices.Sort(told)
	protos, told = slices.Compact(protos), slices.Compact(told)
	for _, dst := range wholeAddrs(l) {
		if inRoutes(routes, dst) {
			continue
		}
		for _, proto := range protos {
			for _, port := range told {
				if policy.Allow(l, proto, dst, port) {
					t.Fatalf("%#x is in no route of %+v, but Allow says yes to %d, %d", dst, l, proto, port)
				}
			}
		}
	}
}

// TestNothingBesideRoutes is promise 18.3 of the example, of edges and of random rules.
func TestNothingBesideRoutes(t *testing.T) {
	wantFollows(t, nil)
	wantFollows(t, example())
	wantFollows(t, []api.Rule{rule(true, 0, 0, 32), rule(true, 0, last, 32)})
	wantFollows(t, append(evens(15), rule(false, 0, 0, 0)))
	for name, r := range sound() {
		t.Run(name, func(t *testing.T) { wantFollows(t, []api.Rule{r}) })
	}
	random := rand.New(rand.NewSource(183))
	for range 100 {
		l := randomRules(random)
		if policy.Check(l) == api.OK {
			wantFollows(t, l[:min(len(l), 8)])
		}
		wide := wideRules(random)
		wantFollows(t, wide[:min(len(wide), 10)])
	}
}

// wideRules is rules of all sizes, anywhere.
func wideRules(random *rand.Rand) (l []api.Rule) {
	for range random.Intn(33) {
		bits := random.Intn(33)
		addr := uint32(uint64(random.Uint32()) >> (32 - bits) << (32 - bits))
		if random.Intn(3) > 0 && len(l) > 0 {
			// Within, or about, one that is there.
			addr = uint32(uint64(l[random.Intn(len(l))].To.Addr+uint32(random.Intn(3))-1) >> (32 - bits) << (32 - bits))
		}
		from := random.Intn(65536)
		if random.Intn(2) == 0 {
			from = 0
		}
		upto := from + random.Intn(65536-from)
		if random.Intn(2) == 0 {
			upto = 65535
		}
		proto := random.Intn(4)
		if random.Intn(4) == 0 {
			proto = random.Intn(256)
		}
		l = append(l, ports(rule(random.Intn(2) == 0, proto, addr, bits), from, upto))
	}
	return l
}

// TestRandomRoutes is promises 18.1 and 18.2 of random rules, near one another and anywhere.
func TestRandomRoutes(t *testing.T) {
	random := rand.New(rand.NewSource(184))
	most := 0
	for range 400 {
		near, wide := randomRules(random), wideRules(random)
		wantSame(t, "random rules", near)
		wantSame(t, "random rules of all sizes", wide)
		most = max(most, len(policy.Routes(near)), len(policy.Routes(wide)))
	}
	if most < 8 {
		t.Errorf("the random rules have at most %d routes: too few to tell", most)
	}
}

// TestRandomSingles is promise 18.2 of random rows of single addresses, of which many have more than 16 routes.
func TestRandomSingles(t *testing.T) {
	random := rand.New(rand.NewSource(185))
	counts := map[int]int{}
	for range 600 {
		var l []api.Rule
		for range 20 + random.Intn(13) {
			l = append(l, rule(random.Intn(8) > 0, random.Intn(3), host+uint32(random.Intn(64)), 32-random.Intn(2)))
			l[len(l)-1].To.Addr &= math.MaxUint32 << (32 - l[len(l)-1].To.Bits)
		}
		wantRoutes(t, "single addresses", l, routesOf(l)...)
		wantForm(t, l)
		counts[len(spansOf(l))]++
	}
	for n := 14; n <= 17; n++ {
		if counts[n] == 0 {
			t.Errorf("no rules with %d spans of addresses", n)
		}
	}
}

// TestNothingChanged is R4: what is handed in stays as it is, and so does what lies behind its end; what is handed out is new memory.
func TestNothingChanged(t *testing.T) {
	random := rand.New(rand.NewSource(186))
	for range 200 {
		whole := append(randomRules(random), wideRules(random)...)
		kept := slices.Clone(whole)
		l := whole[:len(whole)/2]
		policy.Check(l)
		policy.Allow(l, 17, 5, 5)
		first, second := policy.Routes(l), policy.Routes(l)
		if !slices.Equal(whole, kept) {
			t.Fatalf("%+v have changed into %+v", kept, whole)
		}
		told := slices.Clone(second)
		for i := range first {
			first[i] = capsule.Route{Low: 9, High: 3, Proto: 7}
		}
		_ = append(first, capsule.Route{Low: 1})
		clear(whole)
		if !slices.Equal(second, told) {
			t.Fatalf("%v have changed into %v", told, second)
		}
		copy(whole, kept)
		if third := policy.Routes(l); !slices.Equal(third, told) {
			t.Fatalf("Routes of %+v are %v, and then %v", l, told, third)
		}
	}
}

// TestSameAgain is that an answer hangs on the rules alone, not on the order in which ports are gone through.
func TestSameAgain(t *testing.T) {
	random := rand.New(rand.NewSource(187))
	for range 100 {
		l := wideRules(random)
		first := fmt.Sprint(policy.Routes(l))
		for range 10 {
			if again := fmt.Sprint(policy.Routes(l)); again != first {
				t.Fatalf("Routes of %+v are %s, and then %s", l, first, again)
			}
		}
	}
}

// TestManyPartsEnd is R1 of rules that tell apart as many addresses, protocols and ports as can be.
func TestManyPartsEnd(t *testing.T) {
	for _, named := range []int{0, 8, 16, 31} {
		var l []api.Rule
		for i := range 32 {
			r := ports(rule(i == 31, 0, 0, 31-i), 100*i, 65535-100*i)
			if i < named {
				r.Proto = i + 1
			}
			l = append(l, r)
		}
		wantSame(t, "many parts", l)
	}
}

// rulesOf reads rules out of bytes: six each.
func rulesOf(s []byte) (l []api.Rule) {
	for ; len(s) >= 6; s = s[6:] {
		bits := int(s[1])%36 - 1
		addr := uint32(s[2])<<24 | uint32(s[3])
		if s[0]&2 == 0 && bits >= 0 && bits <= 32 {
			addr = uint32(uint64(addr) >> (32 - bits) << (32 - bits))
		}
		r := rule(s[0]&1 == 1, int(s[0])>>3, addr, bits)
		r.From = int(s[4])<<8 - int(s[4])
		if s[0]&4 == 0 {
			r.From = int(s[4])
		}
		r.Upto = r.From + int(s[5])*int(s[5]) - 1
		l = append(l, r)
	}
	return l
}

func FuzzRules(f *testing.F) {
	f.Add([]byte("\x00\x21\x0a\x01\x00\x01\x89\x1f\x0a\x00\x35\x01"))
	f.Add([]byte("\x01\x01\x00\x00\x00\xff"))
	f.Add([]byte("\x00\x21\x00\x00\x00\x10\x05\x21\x00\x00\xff\xff\x89\x20\xff\xff\x01\x02"))
	f.Fuzz(func(t *testing.T, s []byte) {
		l := rulesOf(s)
		wantSame(t, "fuzzed", l[:min(len(l), 40)])
	})
}

func FuzzPacket(f *testing.F) {
	f.Add([]byte("\x00\x21\x0a\x01\x00\x01\x89\x1f\x0a\x00\x35\x01"), 17, uint32(host), 53)
	f.Add([]byte(""), -1, uint32(last), 65536)
	f.Fuzz(func(t *testing.T, s []byte, proto int, dst uint32, port int) {
		l := rulesOf(s)
		wantAllow(t, "fuzzed", l, proto, dst, port, allowed(l, proto, dst, port))
	})
}
