package capsule_test

import (
	"fmt"
	"math"
	"math/rand"
	"slices"
	"strings"
	"testing"

	"vizard/api"
	"vizard/capsule"
)

// TestWays is promise 16.2 of routes that are right.
func TestWays(t *testing.T) {
	wantWays(t, "nothing", "", nil, api.OK)
	wantWays(t, "one", "\x04\x0a\x00\x00\x00\x0a\xff\xff\xff\x11", []capsule.Route{{Low: 0x0a000000, High: 0x0affffff, Proto: 17}}, api.OK)
	wantWays(t, "all", "\x04\x00\x00\x00\x00\xff\xff\xff\xff\x00", []capsule.Route{{High: 0xffffffff}}, api.OK)
	for count := range 20 {
		l := someRoutes(count)
		if count > 16 {
			wantWays(t, "too many", routesBytes(l), nil, api.ErrLong)
		} else {
			wantWays(t, "so many", routesBytes(l), l, api.OK)
		}
	}
}

// TestWaysCut is promise 16.2 of lists that are cut off at every byte.
func TestWaysCut(t *testing.T) {
	for _, count := range []int{1, 2, 15, 16, 17} {
		s := routesBytes(someRoutes(count))
		for at := range len(s) {
			if at%10 == 0 {
				wantWays(t, "cut between two", s[:at], someRoutes(at/10), api.OK)
			} else {
				wantWays(t, "cut within one", s[:at], nil, api.ErrShort)
			}
		}
	}
}

// TestWaysMark is promise 16.2 of a byte that is not 4: that is told as soon as it is there.
func TestWaysMark(t *testing.T) {
	for _, count := range []int{0, 1, 15, 16} {
		before := routesBytes(someRoutes(count))
		for mark := range 256 {
			if mark == 4 {
				continue
			}
			s := before + string([]byte{byte(mark)})
			for _, more := range []string{"", "\x0a", "\x00\x00\x00\x01\x00\x00\x00\x00", "\x00\x00\x00\x01\x00\x00\x00\x02\xff", "\x00\x00\x00\x02\x00\x00\x00\x01\xff", strings.Repeat("\x00", 16), strings.Repeat("\x04", 100)} {
				wantWays(t, "another byte", s+more, nil, api.ErrKind)
			}
		}
		wantWays(t, "cut off right behind it", before+"\x04", nil, api.ErrShort)
	}
}

// pairCases are two routes, and whether they are right one behind the other.
var pairCases = []struct {
	name   string
	first  capsule.Route
	second capsule.Route
	right  bool
}{
	{"follow one another", capsule.Route{Low: 1, High: 2}, capsule.Route{Low: 5, High: 6}, true},
	{"follow at once", capsule.Route{Low: 1, High: 2}, capsule.Route{Low: 3, High: 4}, true},
	{"touch", capsule.Route{Low: 1, High: 2}, capsule.Route{Low: 2, High: 3}, false},
	{"overlap", capsule.Route{Low: 1, High: 5}, capsule.Route{Low: 4, High: 8}, false},
	{"the same", capsule.Route{Low: 1, High: 5}, capsule.Route{Low: 1, High: 5}, false},
	{"the second within the first", capsule.Route{Low: 1, High: 9}, capsule.Route{Low: 3, High: 4}, false},
	{"the first within the second", capsule.Route{Low: 3, High: 4}, capsule.Route{Low: 1, High: 9}, false},
	{"the second ahead of the first", capsule.Route{Low: 5, High: 6}, capsule.Route{Low: 1, High: 2}, false},
	{"at the greatest address", capsule.Route{Low: 0, High: math.MaxUint32 - 1}, capsule.Route{Low: math.MaxUint32, High: math.MaxUint32}, true},
	{"nothing is behind the greatest address", capsule.Route{Low: 0, High: math.MaxUint32}, capsule.Route{Low: 0, High: 0}, false},
	{"nothing but itself at the greatest address", capsule.Route{Low: 0, High: math.MaxUint32}, capsule.Route{Low: math.MaxUint32, High: math.MaxUint32}, false},
	{"on both sides of the highest bit", capsule.Route{Low: 1, High: 0x7fffffff}, capsule.Route{Low: 0x80000000, High: 0x80000001}, true},
	{"on both sides of the highest bit, falling", capsule.Route{Low: 0x80000000, High: 0x80000001}, capsule.Route{Low: 1, High: 0x7fffffff}, false},
	{"Protos that rise", capsule.Route{Low: 1, High: 5, Proto: 6}, capsule.Route{Low: 1, High: 5, Proto: 7}, true},
	{"Protos that rise, the second ahead", capsule.Route{Low: 5, High: 6, Proto: 6}, capsule.Route{Low: 1, High: 2, Proto: 17}, true},
	{"Protos that rise from 0 to 255", capsule.Route{Low: 5, High: 6}, capsule.Route{Low: 5, High: 6, Proto: 255}, true},
	{"Protos that fall", capsule.Route{Low: 1, High: 2, Proto: 7}, capsule.Route{Low: 3, High: 4, Proto: 6}, false},
	{"Protos that fall, far apart", capsule.Route{Low: 1, High: 2, Proto: 255}, capsule.Route{Low: 3, High: 4}, false},
	{"Protos that are the same, 255", capsule.Route{Low: 1, High: 2, Proto: 255}, capsule.Route{Low: 3, High: 4, Proto: 255}, true},
	{"the second with Low above High", capsule.Route{Low: 1, High: 2}, capsule.Route{Low: 6, High: 5}, false},
	{"the second with Low above High, Protos that rise", capsule.Route{Low: 1, High: 2}, capsule.Route{Low: 6, High: 5, Proto: 1}, false},
	{"the first with Low above High", capsule.Route{Low: 2, High: 1}, capsule.Route{Low: 5, High: 6}, false},
}

// TestRoutesRight is promise 16.2 of two routes one behind the other, in Ways and in Tells.
func TestRoutesRight(t *testing.T) {
	for _, c := range pairCases {
		wantTells(t, c.name, c.right, c.first, c.second)
		if !c.right {
			wantWays(t, c.name, routesBytes([]capsule.Route{c.first, c.second}), nil, api.ErrRange)
			wantWays(t, c.name+", and more", routesBytes([]capsule.Route{c.first, c.second})+"\x05", nil, api.ErrRange)
		}
	}
	for _, r := range []capsule.Route{{Low: 1, High: 0}, {Low: math.MaxUint32, High: 0}, {Low: math.MaxUint32, High: math.MaxUint32 - 1}, {Low: 0x80000000, High: 0x7fffffff, Proto: 6}} {
		wantTells(t, "Low above High", false, r)
		wantWays(t, "Low above High", routeBytes(r), nil, api.ErrRange)
	}
	for _, r := range []capsule.Route{{}, {Low: 1, High: 1}, {Low: math.MaxUint32, High: math.MaxUint32}, {Low: 0, High: 1}, {Low: 0x7fffffff, High: 0x80000000}, {Low: 0, High: math.MaxUint32, Proto: 255}} {
		wantTells(t, "Low at most High", true, r)
	}
}

// TestProtos is promise 16.2 of every Proto that a byte can be, and of those that are none.
func TestProtos(t *testing.T) {
	for proto := range 256 {
		r := capsule.Route{Low: 1, High: 2, Proto: proto}
		wantTells(t, "a byte", true, r)
		for other := range 256 {
			wantTells(t, "two", other > proto, r, capsule.Route{Low: 1, High: 2, Proto: other})
			wantTells(t, "two that follow", other >= proto, r, capsule.Route{Low: 3, High: 4, Proto: other})
		}
	}
	for _, proto := range []int{-1, -2, -256, -255, -1 << 32, math.MinInt, 256, 257, 511, 512, 1 << 16, 1 << 32, 1<<32 + 17, math.MaxInt} {
		r := capsule.Route{Low: 1, High: 2, Proto: proto}
		wantTells(t, "no byte", false, r)
		wantTells(t, "no byte, behind another", false, capsule.Route{Low: 1, High: 2}, r)
		wantTells(t, "no byte, ahead of another", false, r, capsule.Route{Low: 1, High: 2, Proto: 255})
	}
}

// TestWaysFaults is promise 16.2 of two faults: the first one is told, member by member; and of a fault behind the sixteenth member.
func TestWaysFaults(t *testing.T) {
	wrong := []struct {
		s string
		e api.Errno
	}{
		{"\x05\x00\x00\x00\x01\x00\x00\x00\x02\xff", api.ErrKind},
		{"\x04\x00\x00\x00\x02\x00\x00\x00\x01\xff", api.ErrRange},
		{"\x04\x00\x00\x00\x02\x00\x00\x00\x01", api.ErrShort},
		{"\x04", api.ErrShort},
		{"\x06", api.ErrKind},
	}
	for _, first := range wrong {
		for _, count := range []int{0, 1, 14, 15, 16} {
			before := routesBytes(someRoutes(count))
			wantWays(t, "one fault", before+first.s, nil, first.e)
			if first.e == api.ErrShort {
				continue // nothing stands behind it
			}
			for _, second := range wrong {
				wantWays(t, "two faults", before+first.s+second.s, nil, first.e)
				wantWays(t, "two faults, with others between", before+first.s+routesBytes(someRoutes(3))+second.s, nil, first.e)
			}
			wantWays(t, "a fault, and then too many", before+first.s+routesBytes(someRoutes(17)), nil, first.e)
		}
		wantWays(t, "too many, and then a fault", routesBytes(someRoutes(17))+first.s, nil, api.ErrLong)
	}
	sixteen := someRoutes(16)
	wantWays(t, "the seventeenth is the same as the sixteenth", routesBytes(append(sixteen, sixteen[15])), nil, api.ErrRange)
	wantWays(t, "the seventeenth has a Proto that falls", routesBytes(append(sixteen, capsule.Route{Low: 1 << 20, High: 1 << 21, Proto: 4})), nil, api.ErrRange)
	wantWays(t, "the eighteenth is not right", routesBytes(append(someRoutes(17), sixteen[0])), nil, api.ErrLong)
}

// TestTells is promise 16.2 of routes' bytes, none and many: there is no bound to how many are told.
func TestTells(t *testing.T) {
	if s, e := capsule.Tells([]capsule.Route{{Low: 0x0a000000, High: 0x0affffff, Proto: 0}, {Low: 1, High: 0x80ff0102, Proto: 255}}); s != "\x04\x0a\x00\x00\x00\x0a\xff\xff\xff\x00\x04\x00\x00\x00\x01\x80\xff\x01\x02\xff" || e != api.OK {
		t.Errorf("Tells is %x, %d", s, e)
	}
	wantTells(t, "none", true)
	if s, e := capsule.Tells([]capsule.Route{}); s != "" || e != api.OK {
		t.Errorf("Tells of an empty list is %x, %d", s, e)
	}
	for count := range 40 {
		wantTells(t, "so many", true, someRoutes(count)...)
		if count == 0 {
			continue
		}
		for at := range count {
			l := someRoutes(count)
			l[at].Low = l[at].High + 1
			wantTells(t, "one that is not right", false, l...)
		}
		for at := range count {
			wantTells(t, "one twice", false, slices.Insert(someRoutes(count), at, someRoutes(count)[at])...)
		}
	}
	wantTells(t, "very many", true, someRoutes(768)...)
	wantTells(t, "one more than there are Protos for", false, someRoutes(769)...)
}

// TestEveryTwoSmallRoutes is promise 16.2 of all pairs of small routes.
func TestEveryTwoSmallRoutes(t *testing.T) {
	var all []capsule.Route
	for low := range uint32(4) {
		for high := range uint32(4) {
			for proto := range 2 {
				all = append(all, capsule.Route{Low: low, High: high, Proto: proto})
			}
		}
	}
	for _, a := range all {
		for _, b := range all {
			wantTells(t, "two", rightRoutes([]capsule.Route{a, b}), a, b)
			wantSameLists(t, "two", routesBytes([]capsule.Route{a, b}))
			for _, c := range all {
				wantTells(t, "three", rightRoutes([]capsule.Route{a, b, c}), a, b, c)
			}
		}
	}
}

// TestRoutesMemory is promise 16.2 with R4: nothing that is handed in is changed, and answers share nothing.
func TestRoutesMemory(t *testing.T) {
	l := append(make([]capsule.Route, 0, 20), someRoutes(16)...)
	before := fmt.Sprint(l[:cap(l)])
	s, _ := capsule.Tells(l)
	if fmt.Sprint(l[:cap(l)]) != before {
		t.Error("Tells changed what was handed in")
	}
	first, _ := capsule.Ways(s)
	second, _ := capsule.Ways(s)
	clear(first)
	_ = append(first, capsule.Route{Low: 1, High: 1, Proto: 255})
	if !slices.Equal(second, l) {
		t.Error("a change of an answer changes another")
	}
}

// randomAddresses are right ones, up to eighteen.
func randomAddresses(r *rand.Rand) (l []capsule.Address) {
	for range r.Intn(19) {
		bits := r.Intn(33)
		l = append(l, addressOf(r.Int63()>>(1+r.Intn(62)), r.Uint32()&^uint32(1<<(32-bits)-1), bits))
	}
	return l
}

// randomRoutes are right ones, up to eighteen.
func randomRoutes(r *rand.Rand) (l []capsule.Route) {
	proto, low := 0, uint32(0)
	for range r.Intn(19) {
		if low > 1<<31 || r.Intn(2) == 0 {
			proto, low = proto+1+r.Intn(12), r.Uint32()>>(1+r.Intn(31))
		}
		high := low + r.Uint32()>>(2+r.Intn(30))
		l = append(l, capsule.Route{Low: low, High: high, Proto: proto})
		low = high + 1 + r.Uint32()>>(4+r.Intn(28))
	}
	return l
}

// TestListsThereAndBack is promise 16.4 of lists, and 16.2 of such bytes with some of them changed.
func TestListsThereAndBack(t *testing.T) {
	r := rand.New(rand.NewSource(162))
	for range 20000 {
		addresses, routes := randomAddresses(r), randomRoutes(r)
		wantAssigns(t, "random", true, addresses...)
		wantTells(t, "random", true, routes...)
		a, b := addressesBytes(addresses), routesBytes(routes)
		for range 4 {
			a, b = changed(r, a), changed(r, b)
			wantSameLists(t, "changed", a)
			wantSameLists(t, "changed", b)
		}
	}
}

// TestEveryShortList is promise 16.2 of bytes that matter, in every row of up to eight.
func TestEveryShortList(t *testing.T) {
	var grow func(s string, more int)
	grow = func(s string, more int) {
		wantSameLists(t, "short", s)
		if more == 0 {
			return
		}
		for _, b := range []byte("\x00\x04\x20\x40") {
			grow(s+string([]byte{b}), more-1)
		}
	}
	grow("", 8)
}

// FuzzLists is promises 16.2 and 16.4 of any bytes.
func FuzzLists(f *testing.F) {
	for _, count := range []int{0, 1, 2, 16, 17} {
		f.Add(addressesBytes(someAddresses(count)))
		f.Add(routesBytes(someRoutes(count)))
	}
	for _, c := range wrongAddresses {
		f.Add(c.s)
	}
	for _, c := range pairCases {
		f.Add(routesBytes([]capsule.Route{c.first, c.second}))
	}
	f.Fuzz(func(t *testing.T, s string) {
		wantSameLists(t, "fuzzed", s)
		if l, e := capsule.Addresses(s); e == api.OK {
			wantAssigns(t, "fuzzed", true, l...)
		}
		if l, e := capsule.Ways(s); e == api.OK {
			wantTells(t, "fuzzed", true, l...)
		}
	})
}
