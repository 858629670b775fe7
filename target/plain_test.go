package target_test

import (
	"fmt"
	"math"
	"regexp"
	"slices"
	"strconv"
	"testing"

	"vizard/api"
	"vizard/target"
)

const (
	udpPath = "/.well-known/masque/udp/192.0.2.6/443/"
	ipPath  = "/.well-known/masque/ip/*/*/"
)

// The numbers that a path may have, digit by digit.
const (
	octetForm = `(0|[1-9][0-9]?|1[0-9][0-9]|2[0-4][0-9]|25[0-5])`
	portForm  = `([1-9][0-9]{0,3}|[1-5][0-9]{4}|6[0-4][0-9]{3}|65[0-4][0-9]{2}|655[0-2][0-9]|6553[0-5])`
)

var (
	rightName   = regexp.MustCompile(`\A[-:a-z0-9]{1,256}\z`)
	rightValue  = regexp.MustCompile(`\A[\x20-\x7e]{0,256}\z`)
	payloadPath = regexp.MustCompile(`\A/\.well-known/masque/udp/` + octetForm + `\.` + octetForm + `\.` + octetForm + `\.` + octetForm + `/` + portForm + `/\z`)
	packetPath  = regexp.MustCompile(`\A/\.well-known/masque/ip/\*/\*/\z`)
)

// needed are the names that must be there, whatever is asked for.
var needed = []string{":method", ":scheme", ":authority", ":path"}

// known are the names that may begin with a colon.
var known = append([]string{":protocol"}, needed...)

// fieldsRight is whether the fields are a section.
func fieldsRight(l []api.Field) bool {
	return len(l) <= 16 && !slices.ContainsFunc(l, func(f api.Field) bool {
		return !rightName.MatchString(f.Name) || !rightValue.MatchString(f.Value)
	})
}

// valuesOf are all values of a name.
func valuesOf(l []api.Field, name string) (values []string) {
	for _, f := range l {
		if f.Name == name {
			values = append(values, f.Value)
		}
	}
	return values
}

// is is whether a field is there, and has that value.
func is(l []api.Field, name, value string) bool {
	return slices.Equal(valuesOf(l, name), []string{value})
}

// formRight is whether the names that begin with a colon are what and where they may be.
func formRight(l []api.Field) bool {
	for _, name := range needed {
		if len(valuesOf(l, name)) != 1 {
			return false
		}
	}
	for i, f := range l {
		if f.Name[0] != ':' {
			continue
		}
		if !slices.Contains(known, f.Name) || len(valuesOf(l, f.Name)) > 1 {
			return false
		}
		if i > 0 && l[i-1].Name[0] != ':' {
			return false
		}
	}
	return true
}

// statusOf is the status ahead of a look at the path; 200: the path decides.
func statusOf(l []api.Field) int {
	if !fieldsRight(l) || !formRight(l) {
		return 400
	}
	protocols := valuesOf(l, ":protocol")
	if is(l, ":method", "CONNECT") {
		if len(protocols) == 0 {
			return 400
		}
	} else {
		return 405
	}
	if protocols[0] != "connect-udp" && protocols[0] != "connect-ip" {
		return 501
	}
	if !is(l, ":scheme", "https") || is(l, ":authority", "") || !is(l, "capsule-protocol", "?1") {
		return 400
	}
	return 200
}

// asked is what Parse must answer.
func asked(l []api.Field) (api.Target, int) {
	if status := statusOf(l); status != 200 {
		return api.Target{}, status
	}
	path := valuesOf(l, ":path")[0]
	if is(l, ":protocol", "connect-ip") {
		if packetPath.MatchString(path) {
			return api.Target{Ip: true}, 200
		}
		return api.Target{}, 404
	}
	return targetAt(path)
}

// targetAt is the target of payloads with that path.
func targetAt(path string) (api.Target, int) {
	parts := payloadPath.FindStringSubmatch(path)
	if parts == nil {
		return api.Target{}, 404
	}
	var numbers [6]uint64
	for i := 1; i < 6; i++ {
		numbers[i], _ = strconv.ParseUint(parts[i], 10, 32)
	}
	addr := numbers[1]*1<<24 + numbers[2]*1<<16 + numbers[3]*1<<8 + numbers[4]
	return api.Target{Addr: uint32(addr), Port: int(numbers[5])}, 200
}

// isTarget is whether a target is one.
func isTarget(x api.Target) bool {
	if x.Ip {
		return x == api.Target{Ip: true}
	}
	return x.Port > 0 && x.Port < 65536
}

// pathOf is what Path must answer.
func pathOf(x api.Target) string {
	if !isTarget(x) {
		return ""
	}
	if x.Ip {
		return ipPath
	}
	return fmt.Sprintf("/.well-known/masque/udp/%d.%d.%d.%d/%d/", x.Addr>>24, x.Addr>>16&255, x.Addr>>8&255, x.Addr&255, x.Port)
}

// fieldsOf is what Fields must answer.
func fieldsOf(authority string, x api.Target) []api.Field {
	if !isTarget(x) {
		return nil
	}
	protocol := map[bool]string{false: "connect-udp", true: "connect-ip"}[x.Ip]
	return []api.Field{{Name: ":method", Value: "CONNECT"}, {Name: ":protocol", Value: protocol}, {Name: ":scheme", Value: "https"},
		{Name: ":authority", Value: authority}, {Name: ":path", Value: pathOf(x)}, {Name: "capsule-protocol", Value: "?1"}}
}

// forPayloads is a request that is right.
func forPayloads() []api.Field {
	return []api.Field{{Name: ":method", Value: "CONNECT"}, {Name: ":protocol", Value: "connect-udp"}, {Name: ":scheme", Value: "https"},
		{Name: ":authority", Value: "proxy"}, {Name: ":path", Value: udpPath}, {Name: "capsule-protocol", Value: "?1"}}
}

// forPackets is another one.
func forPackets() []api.Field {
	return with(with(forPayloads(), ":protocol", "connect-ip"), ":path", ipPath)
}

// with is a request with another value of a name.
func with(l []api.Field, name, value string) []api.Field {
	l = slices.Clone(l)
	for i := range l {
		if l[i].Name == name {
			l[i].Value = value
		}
	}
	return l
}

// without is a request without a name.
func without(l []api.Field, name string) []api.Field {
	return slices.DeleteFunc(slices.Clone(l), func(f api.Field) bool { return f.Name == name })
}

// at is a request with more fields at a place.
func at(l []api.Field, place int, more ...api.Field) []api.Field {
	return slices.Insert(slices.Clone(l), place, more...)
}

// atPath is a request for payloads, or for packets, with that path.
func atPath(ip bool, path string) []api.Field {
	if ip {
		return with(forPackets(), ":path", path)
	}
	return with(forPayloads(), ":path", path)
}

func field(name, value string) api.Field {
	return api.Field{Name: name, Value: value}
}

// want asks Parse, and holds what the test says against the test's own reader as well.
func want(t *testing.T, name string, l []api.Field, x api.Target, status int) {
	t.Helper()
	if y, n := asked(l); y != x || n != status {
		t.Fatalf("%s: the test says of %.300q both %+v, %d, and %+v, %d", name, l, x, status, y, n)
	}
	if y, n := target.Parse(l); y != x || n != status {
		t.Errorf("%s: Parse of %.300q is %+v, %d; want %+v, %d", name, l, y, n, x, status)
	}
}

// wantStatus is that a request is refused.
func wantStatus(t *testing.T, name string, l []api.Field, status int) {
	t.Helper()
	want(t, name, l, api.Target{}, status)
}

// wantSame asks Parse for what the test's own reader says.
func wantSame(t *testing.T, name string, l []api.Field) {
	t.Helper()
	x, status := asked(l)
	want(t, name, l, x, status)
}

// wantOrdinary is that a request gets what forPayloads asks for.
func wantOrdinary(t *testing.T, name string, l []api.Field) {
	t.Helper()
	want(t, name, l, api.Target{Addr: 0xC0000206, Port: 443}, 200)
}

// wantPackets is that a request gets what forPackets asks for.
func wantPackets(t *testing.T, name string, l []api.Field) {
	t.Helper()
	want(t, name, l, api.Target{Ip: true}, 200)
}

// edgeAddrs are addresses at which bytes and digits change.
var edgeAddrs = []uint32{
	0, 1, 9, 10, 99, 100, 127, 128, 199, 200, 249, 250, 255, 256, 0xffff, 0x10000, 0xffffff, 0x1000000,
	0x0A000001, 0x01020304, 0x7fffffff, 0x80000000, 0xC0000206, 0xFF000000, 0xfffffffe, math.MaxUint32,
}

// rightPorts are those at which digits change.
var rightPorts = []int{1, 2, 9, 10, 53, 99, 100, 443, 999, 1000, 9999, 10000, 32767, 32768, 59999, 60000, 64999, 65000, 65499, 65500, 65529, 65530, 65534, 65535}

// wrongPorts are those that no target of payloads has.
var wrongPorts = []int{math.MinInt, math.MinInt32, -65536, -65535, -443, -2, -1, 0, 65536, 65537, 65536 + 443, 99999, 100000, math.MaxInt32, 1 << 32, 1<<32 + 443, math.MaxInt}
