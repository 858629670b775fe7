package capsule_test

import (
	"encoding/binary"
	"math/big"
	"slices"
	"strings"
	"testing"

	"vizard/api"
	"vizard/capsule"
)

func addressOf(id int64, addr uint32, bits int) capsule.Address {
	return capsule.Address{Id: id, Prefix: api.Prefix{Addr: addr, Bits: bits}}
}

// word is an address in four bytes.
func word(a uint32) string {
	return string(binary.BigEndian.AppendUint32(nil, a))
}

// addressBytes is an address in bytes, behind a number of its own; of bits that are no byte the lowest eight.
func addressBytes(id string, a capsule.Address) string {
	return id + "\x04" + word(a.Prefix.Addr) + string([]byte{byte(a.Prefix.Bits)})
}

// routeBytes is a route in bytes; of a Proto that is no byte the lowest eight bits.
func routeBytes(r capsule.Route) string {
	return "\x04" + word(r.Low) + word(r.High) + string([]byte{byte(r.Proto)})
}

// addressesBytes is addresses one behind the other.
func addressesBytes(l []capsule.Address) string {
	var s strings.Builder
	for _, a := range l {
		s.WriteString(addressBytes(put(a.Id), a))
	}
	return s.String()
}

// routesBytes is routes one behind the other.
func routesBytes(l []capsule.Route) string {
	var s strings.Builder
	for _, r := range l {
		s.WriteString(routeBytes(r))
	}
	return s.String()
}

// isNumber tells of a number whether it can be written.
func isNumber(n int64) bool {
	return n >= 0 && n <= greatest
}

// rightPrefix goes through the bits of an address one by one.
func rightPrefix(p api.Prefix) bool {
	if p.Bits < 0 || p.Bits > 32 {
		return false
	}
	for i := p.Bits; i < 32; i++ {
		if new(big.Int).SetUint64(uint64(p.Addr)).Bit(31-i) == 1 {
			return false
		}
	}
	return true
}

// rightRoutes goes through the words of the chapter, for all of a list.
func rightRoutes(l []capsule.Route) bool {
	for _, r := range l {
		if r.Low > r.High || r.Proto < 0 || r.Proto > 255 {
			return false
		}
	}
	for i := 1; i < len(l); i++ {
		first, second := l[i-1], l[i]
		rises := second.Proto > first.Proto
		behind := second.Proto == first.Proto && second.Low > first.High
		if !rises && !behind {
			return false
		}
	}
	return true
}

// readAddresses is what Addresses must answer.
func readAddresses(s string) (l []capsule.Address, e api.Errno) {
	for at := 0; at < len(s); {
		id, mark, ok := number(s, at)
		if !ok || mark == len(s) {
			return nil, api.ErrShort
		}
		if s[mark] != 4 {
			return nil, api.ErrKind
		}
		at = mark + 6
		if at > len(s) {
			return nil, api.ErrShort
		}
		l = append(l, addressOf(id, binary.BigEndian.Uint32([]byte(s[mark+1:mark+5])), int(s[mark+5])))
		if !rightPrefix(l[len(l)-1].Prefix) {
			return nil, api.ErrRange
		}
		if len(l) == 17 {
			return nil, api.ErrLong
		}
	}
	return l, api.OK
}

// readRoutes is what Ways must answer: members all have ten bytes.
func readRoutes(s string) (l []capsule.Route, e api.Errno) {
	for one := range slices.Chunk([]byte(s), 10) {
		if one[0] != 4 {
			return nil, api.ErrKind
		}
		if len(one) < 10 {
			return nil, api.ErrShort
		}
		l = append(l, capsule.Route{Low: binary.BigEndian.Uint32(one[1:]), High: binary.BigEndian.Uint32(one[5:]), Proto: int(one[9])})
		if !rightRoutes(l) {
			return nil, api.ErrRange
		}
		if len(l) == 17 {
			return nil, api.ErrLong
		}
	}
	return l, api.OK
}

func wantAddresses(t *testing.T, name, s string, list []capsule.Address, want api.Errno) {
	t.Helper()
	if l, e := readAddresses(s); !slices.Equal(l, list) || e != want {
		t.Fatalf("%s: the test says of %x both %v, %d, and %v, %d", name, short(s), list, want, l, e)
	}
	if l, e := capsule.Addresses(s); !slices.Equal(l, list) || e != want {
		t.Errorf("%s: Addresses of %x is %v, %d; want %v, %d", name, short(s), l, e, list, want)
	}
}

func wantWays(t *testing.T, name, s string, list []capsule.Route, want api.Errno) {
	t.Helper()
	if l, e := readRoutes(s); !slices.Equal(l, list) || e != want {
		t.Fatalf("%s: the test says of %x both %v, %d, and %v, %d", name, short(s), list, want, l, e)
	}
	if l, e := capsule.Ways(s); !slices.Equal(l, list) || e != want {
		t.Errorf("%s: Ways of %x is %v, %d; want %v, %d", name, short(s), l, e, list, want)
	}
}

// wantSameLists asks Addresses and Ways for what the test's own readers say.
func wantSameLists(t *testing.T, name, s string) {
	t.Helper()
	addresses, e := readAddresses(s)
	wantAddresses(t, name, s, addresses, e)
	routes, e := readRoutes(s)
	wantWays(t, name, s, routes, e)
}

// wantAssigns asks for the bytes of addresses, and for reading them back; nothing, if they are not right.
func wantAssigns(t *testing.T, name string, right bool, l ...capsule.Address) {
	t.Helper()
	wrong := func(a capsule.Address) bool { return !isNumber(a.Id) || !rightPrefix(a.Prefix) }
	if slices.ContainsFunc(l, wrong) == right {
		t.Fatalf("%s: the test says of %v both that they are right and that they aren't", name, l)
	}
	want := ""
	if right {
		want = addressesBytes(l)
	}
	if s := capsule.Assigns(l); s != want {
		t.Errorf("%s: Assigns of %v is %x, want %x", name, l[:min(len(l), 20)], short(s), short(want))
	}
	if right && len(l) <= 16 {
		wantAddresses(t, name, want, l, api.OK)
	}
}

// wantTells asks for the bytes of routes, and for reading them back; ErrRange, if they are not right.
func wantTells(t *testing.T, name string, right bool, l ...capsule.Route) {
	t.Helper()
	if rightRoutes(l) != right {
		t.Fatalf("%s: the test says of %v both that they are right and that they aren't", name, l)
	}
	want, fault := "", api.ErrRange
	if right {
		want, fault = routesBytes(l), api.OK
	}
	if s, e := capsule.Tells(l); s != want || e != fault {
		t.Errorf("%s: Tells of %v is %x, %d; want %x, %d", name, l[:min(len(l), 20)], short(s), e, short(want), fault)
	}
	if right && len(l) <= 16 {
		wantWays(t, name, want, l, api.OK)
	}
}

// someAddresses are that many right addresses.
func someAddresses(count int) (l []capsule.Address) {
	for i := range count {
		l = append(l, addressOf(int64(i)*int64(i)*37, uint32(10+i)<<24, 8+i%25))
	}
	return l
}

// someRoutes are that many right routes.
func someRoutes(count int) (l []capsule.Route) {
	for i := range count {
		l = append(l, capsule.Route{Low: uint32(i%3) << 8, High: uint32(i%3)<<8 + uint32(i%5), Proto: i / 3})
	}
	return l
}
