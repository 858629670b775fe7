package target_test

import (
	"math/rand"
	"slices"
	"strings"
	"testing"

	"vizard/api"
	"vizard/fields"
	"vizard/target"
)

// wantWrite asks Path and Fields.
func wantWrite(t *testing.T, authority string, x api.Target) {
	t.Helper()
	if path := target.Path(x); path != pathOf(x) {
		t.Errorf("Path of %+v is %q, want %q", x, path, pathOf(x))
	}
	if l := target.Fields(authority, x); !slices.Equal(l, fieldsOf(authority, x)) {
		t.Errorf("Fields of %.40q and %+v are %.300q, want %.300q", authority, x, l, fieldsOf(authority, x))
	}
}

// someTargets are targets and what is none.
func someTargets() (l []api.Target) {
	for _, addr := range edgeAddrs {
		for _, port := range slices.Concat(rightPorts, wrongPorts) {
			l = append(l, api.Target{Addr: addr, Port: port}, api.Target{Ip: true, Addr: addr, Port: port})
		}
		l = append(l, api.Target{Ip: true, Addr: addr})
	}
	return l
}

// TestPathWritten is promise 17.2 of Path, in full.
func TestPathWritten(t *testing.T) {
	for _, one := range []struct {
		x    api.Target
		path string
	}{
		{api.Target{Addr: 0xC0000206, Port: 443}, "/.well-known/masque/udp/192.0.2.6/443/"},
		{api.Target{Port: 1}, "/.well-known/masque/udp/0.0.0.0/1/"},
		{api.Target{Addr: 0xffffffff, Port: 65535}, "/.well-known/masque/udp/255.255.255.255/65535/"},
		{api.Target{Addr: 0x0A000001, Port: 53}, "/.well-known/masque/udp/10.0.0.1/53/"},
		{api.Target{Addr: 0x0A000001, Port: 0}, ""},
		{api.Target{Addr: 0x0A000001, Port: -1}, ""},
		{api.Target{Addr: 0x0A000001, Port: 65536}, ""},
		{api.Target{}, ""},
		{api.Target{Ip: true}, "/.well-known/masque/ip/*/*/"},
		{api.Target{Ip: true, Addr: 1}, ""},
		{api.Target{Ip: true, Port: 1}, ""},
		{api.Target{Ip: true, Port: -1}, ""},
		{api.Target{Ip: true, Port: 65536}, ""},
		{api.Target{Ip: true, Addr: 0xC0000206, Port: 443}, ""},
	} {
		if path := target.Path(one.x); path != one.path {
			t.Errorf("Path of %+v is %q, want %q", one.x, path, one.path)
		}
		wantWrite(t, "proxy", one.x)
	}
}

// TestFieldsWritten is promise 17.2 of Fields, in full.
func TestFieldsWritten(t *testing.T) {
	if l := target.Fields("proxy", api.Target{Addr: 0xC0000206, Port: 443}); !slices.Equal(l, forPayloads()) {
		t.Errorf("Fields of payloads are %q, want %q", l, forPayloads())
	}
	if l := target.Fields("proxy", api.Target{Ip: true}); !slices.Equal(l, forPackets()) {
		t.Errorf("Fields of packets are %q, want %q", l, forPackets())
	}
	for _, x := range []api.Target{{}, {Port: -1}, {Port: 65536}, {Addr: 1}, {Ip: true, Addr: 1}, {Ip: true, Port: 443}} {
		if l := target.Fields("proxy", x); len(l) != 0 {
			t.Errorf("Fields of %+v are %q, want none", x, l)
		}
	}
}

// TestTargets is promise 17.2 of targets at their edges, and of what is none, with authorities of all forms.
func TestTargets(t *testing.T) {
	for _, x := range someTargets() {
		for _, authority := range []string{"proxy", "", " ", "\n", "\xff", strings.Repeat("x", 256), strings.Repeat("x", 257), "proxy.example:443"} {
			wantWrite(t, authority, x)
		}
	}
}

// TestThereAndBack is promise 17.3 with an authority that is right and not empty; and of what is no target Parse gets no fields.
func TestThereAndBack(t *testing.T) {
	for _, x := range someTargets() {
		for _, authority := range []string{"a", " ", "~", "proxy.example:443", strings.Repeat("x", 256)} {
			l := target.Fields(authority, x)
			if isTarget(x) {
				want(t, "a target", l, x, 200)
			} else {
				wantStatus(t, "no target", l, 400)
			}
		}
	}
}

// TestThereAndBackWritten is promise 17.3 of fields that went through bytes (chapter 14) as well.
func TestThereAndBackWritten(t *testing.T) {
	for _, x := range []api.Target{{Port: 1}, {Addr: 0xffffffff, Port: 65535}, {Addr: 0xC0000206, Port: 443}, {Ip: true}} {
		s, e := fields.Write(target.Fields("proxy", x))
		if e != api.OK {
			t.Fatalf("Write of the fields of %+v is %d", x, e)
		}
		l, e := fields.Read(s)
		if e != api.OK {
			t.Fatalf("Read of the fields of %+v is %d", x, e)
		}
		want(t, "a target", l, x, 200)
	}
}

// TestAuthorities is promises 17.1 and 17.2 of an authority that is empty, and of one that is no value: Fields has it as it is, and Parse refuses it.
func TestAuthorities(t *testing.T) {
	for _, x := range []api.Target{{Addr: 0xC0000206, Port: 443}, {Ip: true}} {
		for _, authority := range []string{"", "\n", "proxy\n", "\x00", "\x1f", "\x7f", "\x80", "\xff", "\u00e9", strings.Repeat("x", 257), strings.Repeat("x", 100000)} {
			l := target.Fields(authority, x)
			if len(l) != 6 || l[3] != field(":authority", authority) {
				t.Errorf("Fields of %.40q and %+v are %.300q", authority, x, l)
			}
			wantStatus(t, "an authority that is not right, or empty", l, 400)
		}
		for b := range 256 {
			wantSame(t, "an authority of one byte", target.Fields(string([]byte{byte(b)}), x))
		}
	}
}

// TestNewMemory is R4: what Fields answers shares nothing with another answer.
func TestNewMemory(t *testing.T) {
	for _, x := range []api.Target{{Addr: 0xC0000206, Port: 443}, {Ip: true}} {
		first, second := target.Fields("proxy", x), target.Fields("proxy", x)
		for i := range first {
			first[i] = field("other", "other")
		}
		_ = append(first[:0], field("more", "more"))
		if !slices.Equal(second, fieldsOf("proxy", x)) {
			t.Errorf("Fields of %+v have changed into %q", x, second)
		}
		wantWrite(t, "proxy", x)
		want(t, "behind a change", second, x, 200)
	}
}

// TestRandomTargets is promises 17.1 to 17.3 of random targets and of what is none.
func TestRandomTargets(t *testing.T) {
	random := rand.New(rand.NewSource(172))
	for range 30000 {
		x := api.Target{Ip: random.Intn(8) == 0, Addr: random.Uint32(), Port: random.Intn(70000) - 2000}
		wantWrite(t, "proxy", x)
		wantSame(t, "a random target", target.Fields("proxy", x))
	}
}

func FuzzTarget(f *testing.F) {
	f.Add("proxy", false, uint32(0xC0000206), 443)
	f.Add("", true, uint32(0), 0)
	f.Add("\n", true, uint32(1), 0)
	f.Add("a", false, uint32(0xffffffff), 65536)
	f.Fuzz(func(t *testing.T, authority string, ip bool, addr uint32, port int) {
		x := api.Target{Ip: ip, Addr: addr, Port: port}
		wantWrite(t, authority, x)
		wantSame(t, "fuzzed", target.Fields(authority, x))
	})
}
