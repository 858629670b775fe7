package tenant_test

import (
	"slices"
	"strings"
	"testing"

	"vizard/api"
)

// TestUpFaults is promise 23.1: what goes up with an error of the tunnel's: it is dropped, and the bucket is not asked.
func TestUpFaults(t *testing.T) {
	far2 := going(pool+1, "")
	far2.Dst = far
	another := going(pool, "")
	last := going(pool+1, "")
	last.Ttl = 1
	right := built(going(pool+1, ""))
	for name, s := range map[string]string{
		"nothing":                  "",
		"bytes that are none":      "\x45\x00",
		"a byte more":              right + "\x00",
		"a damaged packet":         right[:9] + "\x01" + right[10:],
		"another place's address":  built(another),
		"a destination denied":     built(far2),
		"the last hop":             built(last),
		"a packet that is great":   built(going(pool+1, strings.Repeat("x", 973))),
		"a payload that is great":  strings.Repeat("x", 1001),
		"the greatest, and denied": built(api.Header{Ttl: 9, Src: pool + 1, Dst: far, Data: strings.Repeat("x", 980)}),
	} {
		x, p := asked(t, changed(func(c *api.Tenant) { c.Burst, c.Rate = 28, 0 }))
		p.write(4, data(gram("\x00"+s)), false)
		p.flush()
		x.wantDropped(1)
		if len(s) <= 990 {
			p.push("\x01\x00" + s)
			p.flush()
			x.wantDropped(2)
		}
		p.settle()
		p.wantOut()
		dropped := x.m.Dropped()
		p.push("\x01\x00" + right)
		p.settle()
		p.wantOut(api.Emit{Ip: true, Addr: host, Data: hopped(going(pool+1, ""))})
		x.wantDropped(dropped)
		if t.Failed() {
			t.Fatal(name)
		}
	}
}

// TestUpSizes is promise 23.1: payloads and packets of as many bytes as may be, which come by capsules.
func TestUpSizes(t *testing.T) {
	for _, size := range []int{0, 1, 500, 999, 1000, 1001, 1002, 2000} {
		x, p := asked(t, base())
		s := strings.Repeat("x", size)
		p.write(0, data(gram("\x00"+s)), false)
		p.settle()
		if size <= 1000 {
			p.wantOut(emitted(s))
			x.wantDropped(0)
		} else {
			p.wantOut()
			x.wantDropped(1)
		}
	}
	for _, size := range []int{0, 972, 973} {
		x, p := asked(t, base())
		h := going(pool+1, strings.Repeat("x", size))
		p.write(4, data(gram("\x00"+built(h))), false)
		p.settle()
		if size <= 972 {
			p.wantOut(api.Emit{Ip: true, Addr: host, Data: hopped(h)})
		} else {
			p.wantOut()
			x.wantDropped(1)
		}
	}
}

// TestBucket is promise 23.1: what goes up with a bucket that is empty: it is dropped, and nothing is taken; each tick brings rate bytes, up to burst.
func TestBucket(t *testing.T) {
	x, p := asked(t, changed(func(c *api.Tenant) { c.Burst, c.Rate = 10, 3 }))
	push := func(size int) {
		t.Helper()
		p.push("\x00\x00" + strings.Repeat("x", size))
		p.flush()
	}
	push(11)
	x.wantDropped(1)
	push(6)
	push(5)
	x.wantDropped(2)
	push(4)
	x.wantDropped(2)
	push(1)
	x.wantDropped(3)
	push(0)
	x.wantDropped(3)
	x.tick()
	push(4)
	x.wantDropped(4)
	push(3)
	x.wantDropped(4)
	for range 9 {
		x.tick()
	}
	push(11)
	x.wantDropped(5)
	push(10)
	x.wantDropped(5)
	p.settle()
	p.wantOut(emitted("xxxxxx"), emitted("xxxx"), emitted(""), emitted("xxx"), emitted("xxxxxxxxxx"))
}

// TestBucketOfPackets is promise 23.1: that a packet takes as many bytes as it has itself.
func TestBucketOfPackets(t *testing.T) {
	x, p := asked(t, changed(func(c *api.Tenant) { c.Burst, c.Rate = 59, 0 }))
	for i, want := range []int{0, 0, 1} {
		p.push("\x01\x00" + built(going(pool+1, strings.Repeat("x", i))))
		p.flush()
		x.wantDropped(want)
	}
	p.push("\x00\x00xx")
	p.push("\x00\x00yyy")
	p.flush()
	x.wantDropped(2)
	p.push("\x00\x00z")
	p.flush()
	x.wantDropped(3)
}

// TestBucketOfAll is promise 23.1: that all tunnels take of one bucket, of every connection.
func TestBucketOfAll(t *testing.T) {
	x, p := asked(t, changed(func(c *api.Tenant) { c.Burst, c.Rate = 40, 0 }))
	p.push("\x00\x00" + strings.Repeat("x", 12))
	p.push("\x01\x00" + built(going(pool+1, "")))
	p.push("\x00\x00x")
	p.flush()
	x.wantDropped(1)
	q := connected(x, "client02")
	q.write(0, udpTo(host, 53), false)
	q.push("\x00\x00x")
	q.push("\x00\x00")
	q.settle()
	x.wantDropped(4)
	q.wantOut(emitted(""))
}

// TestNoBytes is promise 23.1: a bucket that never has bytes: only what has none goes up.
func TestNoBytes(t *testing.T) {
	x, p := asked(t, changed(func(c *api.Tenant) { c.Burst, c.Rate = 0, 1000 }))
	p.push("\x00\x00")
	p.push("\x00\x00x")
	p.flush()
	x.tick()
	p.push("\x00\x00x")
	p.settle()
	p.wantOut(emitted(""))
	x.wantDropped(2)
}

// TestQueue is promise 23.1: what goes up with a queue that is full: it is dropped; each tunnel has a queue of its own.
func TestQueue(t *testing.T) {
	for _, limit := range []int{1, 2, 31, 32} {
		for _, count := range []int{limit - 1, limit, limit + 1, 40} {
			x, p := asked(t, changed(func(c *api.Tenant) { c.Queue = limit }))
			var all string
			var want []api.Emit
			for i := range count {
				all += gram("\x00" + string([]byte{byte(i)}))
				if i < limit {
					want = append(want, emitted(string([]byte{byte(i)})))
				}
			}
			p.write(0, data(all), false)
			p.flush()
			x.wantDropped(count - len(want))
			p.settle()
			p.wantOut(want...)
		}
	}
}

// TestQueues is promise 23.1: that a queue that is full is another one's not at all, and has room again as soon as something went out.
func TestQueues(t *testing.T) {
	x, p := asked(t, changed(func(c *api.Tenant) { c.Queue = 2 }))
	p.write(0, data(gram("\x00a")+gram("\x00b")+gram("\x00c")), false)
	p.push("\x01\x00" + built(going(pool+1, "")))
	p.flush()
	x.wantDropped(1)
	p.turn()
	p.wantOut(emitted("a"))
	p.write(0, data(gram("\x00d")+gram("\x00e")), false)
	p.flush()
	x.wantDropped(2)
	p.settle()
	p.wantOut(emitted("b"), emitted("d"), api.Emit{Ip: true, Addr: host, Data: hopped(going(pool+1, ""))})
}

// TestQueueTakesOfBucket is promise 23.1: that what a full queue refuses was taken of the bucket.
func TestQueueTakesOfBucket(t *testing.T) {
	x, p := asked(t, changed(func(c *api.Tenant) { c.Queue, c.Burst, c.Rate = 1, 10, 0 }))
	p.push("\x00\x00aaaa")
	p.push("\x00\x00bbbb")
	p.flush()
	x.wantDropped(1)
	p.settle()
	p.push("\x00\x00ccc")
	p.push("\x00\x00dd")
	p.settle()
	p.wantOut(emitted("aaaa"), emitted("dd"))
	x.wantDropped(2)
}

// TestRound is promise 23.1: the order in which what waits goes out: a quantum of 1200 bytes for each tunnel, of which an emission takes nine more than its data.
func TestRound(t *testing.T) {
	x, p := with(t, base())
	for i, sizes := range [][]int{{591, 591, 1}, {592, 591, 10, 1}, slices.Repeat([]int{100}, 12)} {
		p.write(int64(4*i), udpTo(host, 53), false)
		for _, size := range sizes {
			p.write(int64(4*i), data(gram("\x00"+strings.Repeat("x", size))), false)
		}
	}
	p.flush()
	x.wantTunnels(0, 4, 8)
	p.settle()
	order := ""
	for _, e := range p.out {
		order += string([]byte{byte('a' + e.Port - 40000)})
	}
	if order != "aabcccccccccccabbbc" {
		t.Errorf("the order is %s", order)
	}
	x.wantDropped(0)
}
