package target_test

import (
	"math/rand"
	"slices"
	"strconv"
	"strings"
	"testing"

	"vizard/api"
	"vizard/target"
)

// wantNoPath is that a path is no target's, neither of payloads nor of packets.
func wantNoPath(t *testing.T, name, path string) {
	t.Helper()
	wantStatus(t, name, atPath(false, path), 404)
	wantStatus(t, name+", of packets", atPath(true, path), 404)
}

// TestPathsCut is promise 17.1 of paths that are cut off at every byte, in front and behind, or lack one byte.
func TestPathsCut(t *testing.T) {
	for _, path := range []string{udpPath, ipPath} {
		for place := range len(path) {
			wantNoPath(t, "the beginning", path[:place])
			wantNoPath(t, "the end", path[place+1:])
			// The port lacks a digit, or the address does: that is another target's path.
			wantSame(t, "one byte less", atPath(false, path[:place]+path[place+1:]))
			wantNoPathOfPackets(t, "one byte less", path[:place]+path[place+1:])
		}
	}
	for place := range len("/.well-known/masque/udp/") {
		wantNoPath(t, "one byte less of what stands in front", udpPath[:place]+udpPath[place+1:])
	}
	for place := range len(ipPath) {
		wantNoPath(t, "one byte less", ipPath[:place]+ipPath[place+1:])
	}
}

func wantNoPathOfPackets(t *testing.T, name, path string) {
	t.Helper()
	wantStatus(t, name, atPath(true, path), 404)
}

// TestPathsWithMore is promise 17.1 of paths that have a byte more ahead, within and behind, or another byte.
func TestPathsWithMore(t *testing.T) {
	for b := byte(0x20); b <= 0x7e; b++ {
		one := string([]byte{b})
		for _, path := range []string{udpPath, ipPath} {
			wantNoPath(t, "a byte ahead", one+path)
			wantNoPath(t, "a byte behind", path+one)
			for place := range len(path) {
				wantSame(t, "a byte within", atPath(false, path[:place]+one+path[place:]))
				wantSame(t, "another byte", atPath(false, path[:place]+one+path[place+1:]))
				wantNoPathOfPackets(t, "a byte within", path[:place]+one+path[place:])
				if path[place] != b {
					wantNoPathOfPackets(t, "another byte", path[:place]+one+path[place+1:])
				}
			}
		}
	}
}

// TestOtherPaths is promise 17.1 of paths that are like a target's.
func TestOtherPaths(t *testing.T) {
	for _, path := range []string{
		"", "/", "//", "*", "/.well-known/masque/", "/.well-known/masque/udp/", "/.well-known/masque/udp//", "/.well-known/masque/udp///", "/.well-known/masque/ip/",
		"192.0.2.6/443/", "/192.0.2.6/443/", "udp/192.0.2.6/443/", "/masque/udp/192.0.2.6/443/", "/.well-known/udp/192.0.2.6/443/",
		"/.well-known/masque/ip/192.0.2.6/443/", "/.well-known/masque/ip/192.0.2.6/17/", "/.well-known/masque/ip/*/17/", "/.well-known/masque/ip/192.0.2.6/*/",
		"/.well-known/masque/udp/*/*/", "/.well-known/masque/udp/192.0.2.6/*/", "/.well-known/masque/udp/*/443/", "/.well-known/masque/tcp/192.0.2.6/443/",
		"/.well-known/masque/ip/*/*/*/", "/.well-known/masque/ip/*/", "/.well-known/masque/ip/**/", "/.well-known/masque/ip/*/*", "/.well-known/masque/ip/%2A/%2A/", "/.well-known/masque/ip/0.0.0.0/0/",
		"/.well-known/masque/udp/443/192.0.2.6/", "/.well-known/masque/udp/192.0.2.6:443/", "/.well-known/masque/udp/192.0.2.6/443", "/.well-known/masque/udp/192.0.2.6/443//", "/.well-known/masque/udp/192.0.2.6//443/",
		"/.well-known/masque/udp//192.0.2.6/443/", "/.well-known/masque/udp/192.0.2.6/443/443/", "/.well-known/masque/udp/192.0.2.6/443/?a", "/.well-known/masque/udp/192.0.2.6/443/#",
		"/.WELL-KNOWN/MASQUE/UDP/192.0.2.6/443/", "/.well-known/masque/UDP/192.0.2.6/443/", "/.well-known/masque/IP/*/*/", "/.well-known/masque/ip/*/*/" + udpPath,
		udpPath + udpPath, ipPath + ipPath, "/.well-known/masque/udp/" + udpPath, "https://proxy" + udpPath, "/.well-known/masque/udp/localhost/443/", "/.well-known/masque/udp/::1/443/", "/.well-known/masque/udp/%3A%3A1/443/",
		"/.well-known/masque/udp/192.0.2.6/443/.", "/.well-known/masque/udp/./192.0.2.6/443/", "/a/../.well-known/masque/udp/192.0.2.6/443/",
	} {
		wantNoPath(t, "another path", path)
	}
}

// TestAddresses is promise 17.1 of addresses at the edges, and of what is none.
func TestAddresses(t *testing.T) {
	for text, addr := range map[string]uint32{
		"0.0.0.0": 0, "0.0.0.1": 1, "0.0.0.255": 255, "0.0.1.0": 256, "0.1.0.0": 1 << 16, "1.0.0.0": 1 << 24, "10.0.0.1": 0x0A000001, "127.255.255.255": 0x7fffffff,
		"128.0.0.0": 0x80000000, "192.0.2.6": 0xC0000206, "255.0.0.0": 0xff000000, "255.255.255.254": 0xfffffffe, "255.255.255.255": 0xffffffff, "1.2.3.4": 0x01020304,
	} {
		want(t, text, atPath(false, "/.well-known/masque/udp/"+text+"/443/"), api.Target{Addr: addr, Port: 443}, 200)
		wantNoPathOfPackets(t, text, "/.well-known/masque/ip/"+text+"/443/")
	}
	for _, text := range []string{
		"", ".", "...", "0", "00.0.0.0", "0.0.0.00", "000.0.0.0", "010.0.0.1", "10.00.0.1", "10.0.00.1", "10.0.0.01", "0192.0.2.6", "192.0.2.06", "192.0.2.006",
		"256.0.0.0", "0.256.0.0", "0.0.256.0", "0.0.0.256", "999.0.0.0", "0.0.0.1000", "0.0.0.4294967296", "0.0.0.18446744073709551616", "3221225990",
		"192.0.2", "192.0", "192", "192.0.2.6.7", "192.0.2.6.", ".192.0.2.6", "192..2.6", "192.0.2.", ".0.2.6", "192.0.2.6.0.0.0",
		"-1.0.0.0", "0.0.0.-0", "+192.0.2.6", "192.+0.2.6", " 192.0.2.6", "192.0.2.6 ", "192. 0.2.6", "0xc0.0.2.6", "c0.0.2.6", "192,0,2,6", "1_92.0.2.6", "1e2.0.0.1", "192.0.2.6/32", "*",
	} {
		wantNoPath(t, text, "/.well-known/masque/udp/"+text+"/443/")
		wantNoPath(t, text, "/.well-known/masque/udp/"+text+"/1/")
	}
}

// TestPorts is promise 17.1 of ports at the edges, and of what is none.
func TestPorts(t *testing.T) {
	for _, port := range rightPorts {
		want(t, "a port", atPath(false, "/.well-known/masque/udp/192.0.2.6/"+strconv.Itoa(port)+"/"), api.Target{Addr: 0xC0000206, Port: port}, 200)
		want(t, "a port of the address 0", atPath(false, "/.well-known/masque/udp/0.0.0.0/"+strconv.Itoa(port)+"/"), api.Target{Port: port}, 200)
	}
	for _, port := range wrongPorts {
		wantNoPath(t, "a port that is none", "/.well-known/masque/udp/192.0.2.6/"+strconv.Itoa(port)+"/")
		wantNoPath(t, "a port that is none, of the address 0", "/.well-known/masque/udp/0.0.0.0/"+strconv.Itoa(port)+"/")
	}
	for _, text := range []string{
		"", "00", "000", "01", "0443", "00443", "065535", "0" + strings.Repeat("0", 60) + "1", "-1", "-0", "+0", "+1", "+443", "-443", " 443", "443 ", "4 43", " ", "4.43", "443.0", "4,43", "0x1bb", "1bb", "4_43", "443e0", "1e2",
		"65536", "65537", "65979", "70000", "99999", "100000", "655350", "131514", "4294967295", "4294967296", "4294967739", "9223372036854775807", "9223372036854775808", "18446744073709551615", "18446744073709551616", "18446744073709552059", strings.Repeat("9", 200),
		"a", "443a", "a443", "*", "%34", "http", "443/443", "443;", "443?", "NaN", "Inf",
	} {
		wantNoPath(t, text, "/.well-known/masque/udp/192.0.2.6/"+text+"/")
		wantNoPath(t, text, "/.well-known/masque/udp/0.0.0.0/"+text+"/")
	}
}

// TestEveryPort is promises 17.1 and 17.2 of every port, and of numbers beside them.
func TestEveryPort(t *testing.T) {
	for port := -10; port <= 66000; port++ {
		x := api.Target{Addr: uint32(port) * 65537, Port: port}
		path := pathOf(x)
		if got := target.Path(x); got != path {
			t.Fatalf("Path of %+v is %q, want %q", x, got, path)
		}
		if path != "" {
			want(t, "a port", atPath(false, path), x, 200)
		}
	}
}

// TestEveryOctet is promises 17.1 and 17.2 of every number at every place of an address, and of numbers beside them.
func TestEveryOctet(t *testing.T) {
	for place := range 4 {
		for n := range 300 {
			parts := []string{"1", "22", "133", "244"}
			parts[place] = strconv.Itoa(n)
			wantSame(t, "an address", atPath(false, "/.well-known/masque/udp/"+strings.Join(parts, ".")+"/443/"))
			for _, zeros := range []string{"0", "00"} {
				parts[place] = zeros + strconv.Itoa(n)
				wantNoPath(t, "noughts in front", "/.well-known/masque/udp/"+strings.Join(parts, ".")+"/443/")
			}
		}
	}
}

// TestRandomPaths is promise 17.1 of random paths made of what paths are made of.
func TestRandomPaths(t *testing.T) {
	random := rand.New(rand.NewSource(171))
	some := []string{"/", ".", "0", "1", "9", "255", "256", "443", "65535", "65536", "192.0.2.6", "/.well-known/masque/udp/", "/.well-known/masque/ip/", "*", "*/", "-", "+", " "}
	for range 40000 {
		path := "/.well-known/masque/udp/"
		if random.Intn(2) == 0 {
			path += "192.0.2.6/"
		}
		for range random.Intn(6) {
			path += some[random.Intn(len(some))]
		}
		wantSame(t, "a random path", atPath(false, path))
		wantSame(t, "a random path, of packets", atPath(true, path))
	}
}

func FuzzPath(f *testing.F) {
	for _, path := range slices.Concat([]string{"", udpPath, ipPath}, []string{"/.well-known/masque/udp/0.0.0.0/0/", "/.well-known/masque/udp/255.255.255.255/65535/", "/.well-known/masque/udp/01.2.3.4/+1/"}) {
		f.Add(path)
	}
	f.Fuzz(func(t *testing.T, path string) {
		wantSame(t, "fuzzed", atPath(false, path))
		wantSame(t, "fuzzed, of packets", atPath(true, path))
	})
}
