package policy_test

import (
	"math"
	"slices"
	"testing"

	"vizard/api"
	"vizard/policy"
)

// faulty are rules, each with one thing that is not right.
func faulty() map[string]api.Rule {
	ten := rule(true, 17, 0x0A000000, 8)
	return map[string]api.Rule{
		"Proto -1":                     rule(true, -1, 0x0A000000, 8),
		"Proto 256":                    rule(true, 256, 0x0A000000, 8),
		"Proto 273, in a byte 17":      rule(true, 256+17, 0x0A000000, 8),
		"the least Proto":              rule(true, math.MinInt, 0x0A000000, 8),
		"the greatest Proto":           rule(true, math.MaxInt, 0x0A000000, 8),
		"Bits -1":                      rule(true, 17, 0, -1),
		"Bits 33":                      rule(true, 17, 0, 33),
		"Bits 33, of an address":       rule(true, 17, 0x0A000001, 33),
		"Bits 64":                      rule(true, 17, 0, 64),
		"the least Bits":               rule(true, 17, 0, math.MinInt),
		"the greatest Bits":            rule(true, 17, 0, math.MaxInt),
		"a bit beyond the prefix":      rule(true, 17, 0x0A000001, 8),
		"the first bit beyond it":      rule(true, 17, 0x0A800000, 8),
		"the last bit beyond it":       rule(true, 17, 0x0A000001, 31),
		"an address in /0":             rule(true, 17, 1, 0),
		"the highest bit in /0":        rule(true, 17, 0x80000000, 0),
		"From -1":                      ports(ten, -1, 65535),
		"From -1, Upto 0":              ports(ten, -1, 0),
		"From and Upto -1":             ports(ten, -1, -1),
		"the least From":               ports(ten, math.MinInt, 0),
		"Upto -1":                      ports(ten, 0, -1),
		"Upto 65536":                   ports(ten, 0, 65536),
		"From 65535, Upto 65536":       ports(ten, 65535, 65536),
		"From and Upto 65536":          ports(ten, 65536, 65536),
		"From 65536":                   ports(ten, 65536, 65535),
		"the greatest Upto":            ports(ten, 0, math.MaxInt),
		"the greatest From and Upto":   ports(ten, math.MaxInt, math.MaxInt),
		"the least and the greatest":   ports(ten, math.MinInt, math.MaxInt),
		"From above Upto":              ports(ten, 54, 53),
		"From far above Upto":          ports(ten, 65535, 0),
		"From 1, Upto 0":               ports(ten, 1, 0),
		"From and Upto far below 0":    ports(ten, -65536, -1),
		"all of it":                    {Proto: -1, To: api.Prefix{Addr: 1, Bits: 40}, From: 9, Upto: -9},
		"a rule that says no":          rule(false, 256, 0x0A000000, 8),
		"a rule that says no of a /33": rule(false, 0, 0, 33),
	}
}

// sound are rules at the edges of what is right.
func sound() map[string]api.Rule {
	ten := rule(true, 17, 0x0A000000, 8)
	return map[string]api.Rule{
		"the zero value":          {},
		"Proto 0":                 rule(true, 0, 0x0A000000, 8),
		"Proto 1":                 rule(true, 1, 0x0A000000, 8),
		"Proto 254":               rule(true, 254, 0x0A000000, 8),
		"Proto 255":               rule(true, 255, 0x0A000000, 8),
		"/0":                      rule(true, 17, 0, 0),
		"/1, the first half":      rule(true, 17, 0, 1),
		"/1, the second half":     rule(true, 17, 0x80000000, 1),
		"/31":                     rule(true, 17, 0xfffffffe, 31),
		"/32, the first address":  rule(true, 17, 0, 32),
		"/32, the last address":   rule(true, 17, 0xffffffff, 32),
		"all ports":               ports(ten, 0, 65535),
		"the port 0":              ports(ten, 0, 0),
		"the port 1":              ports(ten, 1, 1),
		"the port 65535":          ports(ten, 65535, 65535),
		"two ports":               ports(ten, 65534, 65535),
		"a rule that says no":     rule(false, 17, 0x0A000000, 8),
		"no, to a single address": rule(false, 0, 0x0A000001, 32),
	}
}

// row is so many rules that are right, and say yes.
func row(n int) (l []api.Rule) {
	for i := range n {
		l = append(l, rule(true, 0, uint32(i)<<8, 32))
	}
	return l
}

// TestCheckSound is promise 18.1 of rules that are right, one by one and all together.
func TestCheckSound(t *testing.T) {
	wantCheck(t, "no rules", nil, api.OK)
	wantCheck(t, "none of length 0", []api.Rule{}, api.OK)
	wantCheck(t, "the example", example(), api.OK)
	var all []api.Rule
	for name, r := range sound() {
		wantCheck(t, name, []api.Rule{r}, api.OK)
		all = append(all, r)
	}
	wantCheck(t, "all of them", all, api.OK)
}

// TestCheckFaulty is promise 18.1 of one rule that is not right, alone and at each place among others.
func TestCheckFaulty(t *testing.T) {
	for name, r := range faulty() {
		wantCheck(t, name, []api.Rule{r}, api.ErrRange)
		for _, n := range []int{1, 2, 31} {
			for place := range n + 1 {
				wantCheck(t, name, slices.Insert(row(n), place, r), api.ErrRange)
			}
		}
	}
}

// TestCheckMany is promise 18.1 of 32 and more rules: that they are too many is told first.
func TestCheckMany(t *testing.T) {
	for _, n := range []int{1, 2, 16, 31, 32} {
		wantCheck(t, "as many as may be", row(n), api.OK)
	}
	for _, n := range []int{33, 34, 64, 65, 1000, 100000} {
		l := row(n)
		if e := policy.Check(l); e != api.ErrLong {
			t.Errorf("Check of %d rules is %d", n, e)
		}
		for _, place := range []int{0, 1, 31, 32, n - 1} {
			for name, r := range faulty() {
				kept := l[place]
				l[place] = r
				if e := policy.Check(l); e != api.ErrLong {
					t.Errorf("%s: Check of %d rules is %d", name, n, e)
				}
				l[place] = kept
			}
		}
	}
	wantCheck(t, "32 with one that is not right", append(row(31), rule(true, 256, 0, 0)), api.ErrRange)
}

// TestCheckEveryNumber is promise 18.1 of every number of bits and protocol, and of ports, at their edges and beside them.
func TestCheckEveryNumber(t *testing.T) {
	for n := -300; n <= 600; n++ {
		wantSame(t, "a protocol", []api.Rule{rule(true, n, 0x0A000000, 8)})
		for _, addr := range []uint32{0, 1, 2, 0x0A000000, 0x0A000100, 0x7fffffff, 0x80000000, 0xff000000, 0xfffffffe, 0xffffffff} {
			l := []api.Rule{rule(true, 0, addr, n)}
			wantCheck(t, "bits", l, wrongOf(l))
		}
	}
	for addrBits := range 33 {
		for bits := range 33 {
			addr := uint32(1) << 31 >> addrBits
			l := []api.Rule{rule(true, 0, addr, bits)}
			wantCheck(t, "one bit of the address", l, wrongOf(l))
			wantAllow(t, "one bit of the address", l, 17, addr, 0, bits > addrBits || addr == 0)
		}
	}
	edges := []int{math.MinInt, math.MinInt + 1, math.MinInt32, -65536, -2, -1, 0, 1, 53, 65534, 65535, 65536, 65537, 1 << 32, math.MaxInt - 1, math.MaxInt}
	for _, from := range edges {
		for _, upto := range edges {
			l := []api.Rule{ports(rule(true, 0, 0, 0), from, upto)}
			right := 0 <= from && from <= upto && upto <= 65535
			wantCheck(t, "ports", l, map[bool]api.Errno{true: api.OK, false: api.ErrRange}[right])
			for _, port := range edges {
				wantAllow(t, "ports", l, 17, 0x0A000001, port, right && from <= port && port <= upto)
			}
		}
	}
}
