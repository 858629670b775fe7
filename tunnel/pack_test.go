package tunnel_test

import (
	"fmt"
	"math"
	"strings"
	"testing"

	"vizard/api"
)

func wantPack(t *testing.T, name string, e api.Emit, want string) {
	t.Helper()
	if s := holdPack(t, name, e); s != want {
		t.Errorf("%s: Pack of %.200v is %.60x, want %.60x", name, e, s, want)
	}
}

func wantUnpack(t *testing.T, name string, s string, want api.Emit, fault api.Errno) {
	t.Helper()
	if e, f := holdUnpack(t, name, s); e != want || f != fault {
		t.Errorf("%s: Unpack of %.60x is %.200v, %d; want %.200v, %d", name, s, e, f, want, fault)
	}
}

// TestPackPlaces is promise 22.4 of bytes' places, each of which is another.
func TestPackPlaces(t *testing.T) {
	e := api.Emit{Port: 0x0102, To: 0x0304, Addr: 0x05060708, Data: "\x09\x0a"}
	wantPack(t, "a payload", e, "\x00\x01\x02\x03\x04\x05\x06\x07\x08\x09\x0a")
	wantUnpack(t, "a payload", "\x00\x01\x02\x03\x04\x05\x06\x07\x08\x09\x0a", e, api.OK)
	e.Ip = true
	wantPack(t, "a packet", e, "\x01\x01\x02\x03\x04\x05\x06\x07\x08\x09\x0a")
	wantUnpack(t, "a packet", "\x01\x01\x02\x03\x04\x05\x06\x07\x08\x09\x0a", e, api.OK)
	wantPack(t, "nothing", api.Emit{}, strings.Repeat("\x00", 9))
	wantUnpack(t, "nothing", strings.Repeat("\x00", 9), api.Emit{}, api.OK)
	wantPack(t, "a packet without numbers", api.Emit{Ip: true, Addr: host, Data: "E"}, "\x01\x00\x00\x00\x00\x0a\x00\x00\x02E")
}

// somePorts are ports, and numbers that are none.
var somePorts = []int{math.MinInt, -1 << 32, -65536, -65535, -1, 0, 1, 255, 256, 257, 0x7fff, 0x8000, 65534, 65535, 65536, 65537, 1 << 32, 1<<32 + 53, math.MaxInt}

// TestPackPorts is promise 22.4 of ports: of one that is none, there is nothing.
func TestPackPorts(t *testing.T) {
	for _, port := range somePorts {
		for _, to := range somePorts {
			for _, ip := range []bool{false, true} {
				for _, data := range []string{"", "q"} {
					e := api.Emit{Ip: ip, Port: port, Addr: host, To: to, Data: data}
					want := ""
					if port >= 0 && port <= 65535 && to >= 0 && to <= 65535 {
						kind := map[bool]string{false: "00", true: "01"}[ip]
						want = unhex(t, fmt.Sprintf("%s%04x%04x0a000002%x", kind, port, to, data))
					}
					wantPack(t, "ports", e, want)
				}
			}
		}
	}
}

// unhex is bytes of digits.
func unhex(t *testing.T, digits string) string {
	t.Helper()
	var b []byte
	if n, err := fmt.Sscanf(digits, "%x", &b); n != 1 || err != nil {
		t.Fatalf("%s: %v", digits, err)
	}
	return string(b)
}

// TestPackAddresses is promise 22.4 of addresses and of data.
func TestPackAddresses(t *testing.T) {
	for _, addr := range []uint32{0, 1, 0xff, 0x100, 0xffff, 0x10000, 0xffffff, 0x1000000, 0x7fffffff, 0x80000000, math.MaxUint32} {
		for _, size := range []int{0, 1, 2, 8, 9, 10, 1000, 1001, 65536, 1 << 20} {
			data := strings.Repeat("\xa5", size)
			wantPack(t, "an address", api.Emit{Port: 1, Addr: addr, To: 2, Data: data}, unhex(t, fmt.Sprintf("0000010002%08x", addr))+data)
		}
	}
}

// TestUnpackSizes is promise 22.4 of how many bytes: ErrShort goes ahead of ErrField.
func TestUnpackSizes(t *testing.T) {
	for kind := range 256 {
		s := string([]byte{byte(kind)}) + "\xff\xfe\xfd\xfc\xfb\xfa\xf9\xf8\xf7"
		for size := range 9 {
			wantUnpack(t, "too short", s[:size], api.Emit{}, api.ErrShort)
		}
		for size := 9; size <= 10; size++ {
			if kind > 1 {
				wantUnpack(t, "another kind", s[:size], api.Emit{}, api.ErrField)
				continue
			}
			want := api.Emit{Ip: kind == 1, Port: 0xfffe, To: 0xfdfc, Addr: 0xfbfaf9f8, Data: s[9:size]}
			wantUnpack(t, "an emission", s[:size], want, api.OK)
		}
	}
}

// TestUnpackPorts is promise 22.4 of each port, in both places.
func TestUnpackPorts(t *testing.T) {
	for port := range 65536 {
		two := string([]byte{byte(port >> 8), byte(port)})
		wantUnpack(t, "the port from which", "\x00"+two+"\x00\x35\x0a\x00\x00\x02", api.Emit{Port: port, To: 53, Addr: host}, api.OK)
		wantUnpack(t, "the port to which", "\x01\x00\x35"+two+"\x0a\x00\x00\x02", api.Emit{Ip: true, Port: 53, To: port, Addr: host}, api.OK)
	}
}
