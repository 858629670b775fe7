package conn_test

import (
	"strings"
	"testing"

	"vizard/api"
	"vizard/conn"
)

// sized is a text of so many bytes.
func sized(n int) string {
	return strings.Repeat("n", n)
}

// TestDialSizes is promise 13.1 of names and nonces of too few bytes, of too many, and of as many as must be.
func TestDialSizes(t *testing.T) {
	for _, key := range []string{"", "key", sized(64), sized(65), sized(5000)} {
		for _, cid := range []int{0, 1, 7, 8, 9, 16, 4096} {
			for _, own := range []int{0, 8, 15, 16, 17, 32, 4096} {
				c, e := conn.Dial(key, sized(cid), sized(own))
				if cid != 8 || own != 16 {
					if c != nil || e != api.ErrField {
						t.Fatalf("Dial with %d and %d bytes is %d", cid, own, e)
					}
					continue
				}
				if c == nil || e != api.OK {
					t.Fatalf("Dial is %d", e)
				}
				if phase, code := c.State(); phase != 1 || code != 0 {
					t.Fatalf("State is %d, %d", phase, code)
				}
				k := keysOf(key, "", "")
				p, ok := c.Send(5, 128)
				if want := packetOf(k.hello, 1, sized(8), 0, sized(16)); p != want || !ok {
					t.Fatalf("the hello is %s, %v", short(p), ok)
				}
			}
		}
	}
}

// TestAcceptSizes is promise 13.1 likewise, of a server, whose welcome hangs on both nonces.
func TestAcceptSizes(t *testing.T) {
	for _, cid := range []int{0, 7, 8, 9} {
		for _, client := range []int{0, 15, 16, 17} {
			for _, own := range []int{0, 15, 16, 17} {
				c, e := conn.Accept("k", sized(cid), strings.Repeat("c", client), strings.Repeat("s", own))
				if cid != 8 || client != 16 || own != 16 {
					if c != nil || e != api.ErrField {
						t.Fatalf("Accept with %d, %d and %d bytes is %d", cid, client, own, e)
					}
					continue
				}
				if c == nil || e != api.OK {
					t.Fatalf("Accept is %d", e)
				}
				if phase, code := c.State(); phase != 2 || code != 0 {
					t.Fatalf("State is %d, %d", phase, code)
				}
				k := keysOf("k", strings.Repeat("c", 16), strings.Repeat("s", 16))
				p, ok := c.Send(5, 1200)
				if want := packetOf(k.welcome, 2, sized(8), 0, strings.Repeat("s", 16)); p != want || !ok {
					t.Fatalf("the welcome is %s, %v", short(p), ok)
				}
			}
		}
	}
}

// wantHello holds Hello against an error; beside it there is neither a name nor a nonce.
func wantHello(t *testing.T, key, packet string, want api.Errno) {
	t.Helper()
	cid, n, e := conn.Hello(key, packet)
	if e != want || want != api.OK && (cid != "" || n != "") {
		t.Fatalf("Hello of %s is %q, %q, %d, want %d", short(packet), cid, n, e, want)
	}
}

// TestHello is promise 13.1 of hellos that are right, with bytes of all kinds.
func TestHello(t *testing.T) {
	for _, cid := range []string{name, "\x00\x00\x00\x00\x00\x00\x00\x00", "\xff\xfe\x80\x01\x02\x03\x00\xff"} {
		for _, own := range []string{theirs, sized(16), strings.Repeat("\x00", 16), strings.Repeat("\xff", 16)} {
			for _, key := range []string{"", "key", sized(64)} {
				packet := packetOf(derive(key, "hello", ""), 1, cid, 0, own)
				gotCid, got, e := conn.Hello(key, packet)
				if gotCid != cid || got != own || e != api.OK {
					t.Fatalf("Hello is %q, %q, %d", gotCid, got, e)
				}
			}
		}
	}
}

// TestHelloShort is promise 13.1 of packets that end early: ErrShort is told ahead of all else; a packet of 29 bytes is asked for more.
func TestHelloShort(t *testing.T) {
	whole := helloOf(theirs)
	for n := range 29 {
		wantHello(t, psk, whole[:n], api.ErrShort)
		wantHello(t, psk, strings.Repeat("\x00", n), api.ErrShort)
		wantHello(t, psk, strings.Repeat("\x01", n), api.ErrShort)
	}
	for n := 29; n < 45; n++ {
		wantHello(t, psk, whole[:n], api.ErrTag)
		wantHello(t, psk, "\x02"+whole[1:n], api.ErrKind)
		wantHello(t, psk, strings.Repeat("\x00", n), api.ErrKind)
	}
	wantHello(t, psk, whole, api.OK)
	wantHello(t, psk, whole+"x", api.ErrTag)
	wantHello(t, psk, whole+sized(5000), api.ErrTag)
}

// TestHelloKinds is promise 13.1 of every first byte: what is no hello is told ahead of its tag.
func TestHelloKinds(t *testing.T) {
	k := keysOf(psk, "", "").hello
	for kind := range 256 {
		want := api.ErrKind
		if kind == 1 {
			want = api.OK
		}
		wantHello(t, psk, packetOf(k, byte(kind), name, 0, theirs), want)
		if kind != 1 {
			wantHello(t, psk, string([]byte{byte(kind)})+helloOf(theirs)[1:], want)
			wantHello(t, psk, string([]byte{byte(kind)})+sized(28), want)
		}
	}
}

// TestHelloDamaged is promise 13.1 of a damaged byte anywhere, and of other keys.
func TestHelloDamaged(t *testing.T) {
	whole := helloOf(theirs)
	for i := range whole {
		for bit := range 8 {
			want := api.ErrTag
			if i == 0 {
				want = api.ErrKind
			}
			wantHello(t, psk, damaged(whole, i, 1<<bit), want)
		}
	}
	for _, key := range []string{"", "ke", "kez", "key\x01", "Key"} {
		wantHello(t, key, whole, api.ErrTag)
	}
	k := keysOf(psk, theirs, nonce)
	for _, secret := range []string{k.welcome, k.up, k.down, psk, ""} {
		wantHello(t, psk, packetOf(secret, 1, name, 0, theirs), api.ErrTag)
	}
}

// damaged is a packet with one byte turned.
func damaged(packet string, i int, by byte) string {
	b := []byte(packet)
	b[i] ^= by
	return string(b)
}

// TestHelloFields is promise 13.1 of hellos with a right tag that have another number, or data of another size.
func TestHelloFields(t *testing.T) {
	k := keysOf(psk, "", "").hello
	for _, n := range []uint32{1, 2, 255, 256, 1 << 16, 1 << 24, 1 << 31, 1<<32 - 1} {
		wantHello(t, psk, packetOf(k, 1, name, n, theirs), api.ErrField)
		wantHello(t, psk, packetOf(k, 1, name, n, sized(15)), api.ErrField)
		wantHello(t, psk, damaged(packetOf(k, 1, name, n, theirs), 44, 1), api.ErrTag)
	}
	for _, size := range []int{0, 1, 15, 17, 32, 1171, 5000} {
		wantHello(t, psk, packetOf(k, 1, name, 0, sized(size)), api.ErrField)
		wantHello(t, psk, damaged(packetOf(k, 1, name, 0, sized(size)), size+20, 1), api.ErrTag)
	}
	wantHello(t, psk, packetOf(k, 1, name, 0, sized(16)), api.OK)
}
