package target_test

import (
	"fmt"
	"math/bits"
	"math/rand"
	"slices"
	"strings"
	"testing"

	"vizard/api"
	"vizard/target"
)

// fault is something that is wrong with a request, how it is made, and what it gets if nothing ahead of it is wrong.
type fault struct {
	name   string
	status int
	put    func([]api.Field) []api.Field
}

func missing(name string) func([]api.Field) []api.Field {
	return func(l []api.Field) []api.Field { return without(l, name) }
}

func changed(name, value string) func([]api.Field) []api.Field {
	return func(l []api.Field) []api.Field { return with(l, name, value) }
}

func ahead(f api.Field) func([]api.Field) []api.Field {
	return func(l []api.Field) []api.Field { return at(l, 0, f) }
}

func behind(f api.Field) func([]api.Field) []api.Field {
	return func(l []api.Field) []api.Field { return at(l, len(l), f) }
}

// ranked are the faults, in the order in which the chapter names them.
func ranked() []fault {
	return []fault{
		{"a field that is not right", 400, behind(field("X", ""))},
		{"too many fields", 400, func(l []api.Field) []api.Field {
			return at(l, len(l), slices.Repeat([]api.Field{field("a", "")}, 17)...)
		}},
		{"no method", 400, missing(":method")},
		{"no scheme", 400, missing(":scheme")},
		{"no authority", 400, missing(":authority")},
		{"no path", 400, missing(":path")},
		{"a strange name", 400, ahead(field(":status", "200"))},
		{"two paths", 400, ahead(field(":path", udpPath))},
		{"two protocols", 400, ahead(field(":protocol", "connect-udp"))},
		{"another field ahead", 400, ahead(field("a", "b"))},
		{"no protocol", 400, missing(":protocol")},
		{"another method", 405, changed(":method", "GET")},
		{"another protocol", 501, changed(":protocol", "connect-tcp")},
		{"another scheme", 400, changed(":scheme", "http")},
		{"an empty authority", 400, changed(":authority", "")},
		{"no capsules", 400, missing("capsule-protocol")},
		{"capsules twice", 400, behind(field("capsule-protocol", "?1"))},
		{"other capsules", 400, changed("capsule-protocol", "?0")},
		{"another path", 404, changed(":path", "/")},
	}
}

// TestEachFault is promise 17.1 of each fault alone.
func TestEachFault(t *testing.T) {
	for _, one := range ranked() {
		wantStatus(t, one.name, one.put(forPayloads()), one.status)
		wantStatus(t, one.name+", of packets", one.put(forPackets()), one.status)
	}
}

// together is what two faults get, the first of which is ranked ahead.
func together(first, second fault) int {
	// Only a method that is CONNECT asks for a protocol.
	if first.name == "no protocol" && second.name == "another method" {
		return second.status
	}
	return first.status
}

// TestPairsOfFaults is promise 17.1 of each two faults at once: the one that the chapter names first is the answer.
func TestPairsOfFaults(t *testing.T) {
	all := ranked()
	for i, first := range all {
		for _, second := range all[i+1:] {
			if healed(first, second) {
				continue
			}
			name := first.name + ", " + second.name
			for _, l := range [][]api.Field{forPayloads(), forPackets()} {
				wantStatus(t, name, second.put(first.put(l)), together(first, second))
				wantStatus(t, name+", put the other way round", first.put(second.put(l)), together(first, second))
			}
		}
	}
}

// healed is whether one of two faults makes the other one good, so that they are no pair.
func healed(first, second fault) bool {
	switch first.name + ", " + second.name {
	case "no path, two paths", "two protocols, no protocol", "no capsules, capsules twice":
		return true
	}
	return false
}

// TestHealed is promise 17.1 of the pairs that are none: what is missing is put, or what is there twice is taken.
func TestHealed(t *testing.T) {
	wantOrdinary(t, "another path is put", at(without(forPayloads(), ":path"), 0, field(":path", udpPath)))
	wantOrdinary(t, "another protocol is put", at(without(forPayloads(), ":protocol"), 0, field(":protocol", "connect-udp")))
	wantOrdinary(t, "other capsules are put", at(without(forPayloads(), "capsule-protocol"), 5, field("capsule-protocol", "?1")))
	wantStatus(t, "two protocols, both taken", without(at(forPayloads(), 0, field(":protocol", "connect-udp")), ":protocol"), 400)
}

// TestManyFaults is promise 17.1 of every set of up to four faults, and of some greater ones: the test's own reader says which is first.
func TestManyFaults(t *testing.T) {
	all := ranked()
	seen := map[int]int{}
	for set := range 1 << len(all) {
		if bits.OnesCount(uint(set)) > 4 && set%37 != 0 {
			continue
		}
		l := forPayloads()
		for i, one := range all {
			if set>>i&1 == 1 {
				l = one.put(l)
			}
		}
		_, status := asked(l)
		seen[status]++
		wantSame(t, "a set of faults", l)
	}
	for _, status := range []int{200, 400, 404, 405, 501} {
		if seen[status] == 0 {
			t.Errorf("no set gets %d", status)
		}
	}
}

// choices are fields of which random requests are made.
func choices() []api.Field {
	l := slices.Concat(forPayloads(), forPackets())
	for _, name := range append(slices.Clone(known), "capsule-protocol", ":status", "a", "X") {
		for _, value := range []string{"", "CONNECT", "https", "?1", udpPath, "connect-tcp", "\n"} {
			l = append(l, field(name, value))
		}
	}
	return l
}

// TestRandomRequests is promise 17.1 of random requests, near to a right one and far from it.
func TestRandomRequests(t *testing.T) {
	random := rand.New(rand.NewSource(17))
	some := choices()
	for range 60000 {
		l := forPayloads()
		if random.Intn(2) == 0 {
			l = forPackets()
		}
		for range random.Intn(4) {
			place := random.Intn(len(l) + 1)
			switch {
			case random.Intn(3) == 0 || place == len(l):
				l = at(l, place, some[random.Intn(len(some))])
			case random.Intn(2) == 0:
				l = slices.Delete(l, place, place+1)
			default:
				l[place] = some[random.Intn(len(some))]
			}
		}
		wantSame(t, "a random request", l)
	}
	for range 20000 {
		var l []api.Field
		for range random.Intn(10) {
			l = append(l, some[random.Intn(len(some))])
		}
		wantSame(t, "random fields", l)
	}
}

// split is a request of a text: names and values are lines.
func split(s string) (l []api.Field) {
	lines := strings.Split(s, "\n")
	for i := 0; i+1 < len(lines); i += 2 {
		l = append(l, field(lines[i], lines[i+1]))
	}
	return l
}

// join is the text of a request.
func join(l []api.Field) string {
	var out strings.Builder
	for _, f := range l {
		fmt.Fprintf(&out, "%s\n%s\n", f.Name, f.Value)
	}
	return out.String()
}

func FuzzParse(f *testing.F) {
	f.Add("")
	f.Add(join(forPayloads()))
	f.Add(join(forPackets()))
	for _, one := range ranked() {
		f.Add(join(one.put(forPayloads())))
	}
	f.Fuzz(func(t *testing.T, s string) {
		l := split(s)
		wantSame(t, "fuzzed", l)
		if x, status := target.Parse(l); status == 200 {
			wantSame(t, "fuzzed, and again", target.Fields("a", x))
		}
	})
}
