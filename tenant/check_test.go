package tenant_test

import (
	"math"
	"slices"
	"strings"
	"testing"

	"vizard/api"
	"vizard/tenant"
)

// wantCheck is Check of a configuration, and New of it.
func wantCheck(t *testing.T, name string, c api.Tenant, want api.Errno) {
	t.Helper()
	before := slices.Clone(c.Rules)
	if e := tenant.Check(c); e != want {
		t.Errorf("%s: Check is %d, want %d", name, e, want)
	}
	m, e := tenant.New(c)
	if e != want || (m != nil) != (want == api.OK) {
		t.Errorf("%s: New is %v, %d, want the error %d", name, m, e, want)
	}
	if !slices.Equal(c.Rules, before) {
		t.Errorf("%s: the rules became %v", name, c.Rules)
	}
}

// changed is base with something else.
func changed(change func(c *api.Tenant)) api.Tenant {
	c := base()
	change(&c)
	return c
}

func errorIf(wrong bool) api.Errno {
	if wrong {
		return api.ErrRange
	}
	return api.OK
}

// TestCheckKey is promise 23.1 of keys.
func TestCheckKey(t *testing.T) {
	for _, size := range []int{0, 1, 2, 63, 64, 65, 66, 128, 256, 1 << 16} {
		for _, fill := range []string{"\x00", "k", "\xff"} {
			c := changed(func(c *api.Tenant) { c.Psk = strings.Repeat(fill, size) })
			wantCheck(t, "a key", c, errorIf(size < 1 || size > 64))
		}
	}
}

// TestCheckNumbers is promise 23.1 of each of the numbers.
func TestCheckNumbers(t *testing.T) {
	for _, n := range []int{math.MinInt, -1 << 32, -1<<32 + 1, -2, -1, 0, 1, 2, 3, 4, 5, 6, 31, 32, 33, 34, 1 << 20, 1<<30 - 1, 1 << 30, 1<<30 + 1, 1 << 31, 1 << 32, 1<<32 + 1, math.MaxInt} {
		great := errorIf(n < 0 || n > 1<<30)
		wantCheck(t, "the rate", changed(func(c *api.Tenant) { c.Rate = n }), great)
		wantCheck(t, "the burst", changed(func(c *api.Tenant) { c.Burst = n }), great)
		wantCheck(t, "the quota", changed(func(c *api.Tenant) { c.Quota = n }), errorIf(n < 0 || n > 4))
		wantCheck(t, "the queue", changed(func(c *api.Tenant) { c.Queue = n }), errorIf(n < 1 || n > 32))
	}
	for _, n := range []uint64{0, 1, math.MaxUint32, math.MaxUint64} {
		wantCheck(t, "the pool and the seed", changed(func(c *api.Tenant) { c.Pool, c.Seed = uint32(n), n }), api.OK)
	}
}

// TestCheckRules is promise 23.1 of rules: whatever is wrong with them, it is ErrRange.
func TestCheckRules(t *testing.T) {
	yes := rule(true, 0, 0, 0)
	falls := api.Rule{Allow: true, From: 2, Upto: 1}
	for _, one := range []struct {
		name  string
		rules []api.Rule
		want  api.Errno
	}{
		{"none", nil, api.OK},
		{"an empty list", []api.Rule{}, api.OK},
		{"one", []api.Rule{yes}, api.OK},
		{"32", slices.Repeat([]api.Rule{yes}, 32), api.OK},
		{"33", slices.Repeat([]api.Rule{yes}, 33), api.ErrRange},
		{"1000", slices.Repeat([]api.Rule{yes}, 1000), api.ErrRange},
		{"33 that are not right", slices.Repeat([]api.Rule{falls}, 33), api.ErrRange},
		{"a protocol below 0", []api.Rule{yes, rule(true, -1, 0, 0)}, api.ErrRange},
		{"a protocol of 255", []api.Rule{yes, rule(true, 255, 0, 0)}, api.OK},
		{"a protocol of 256", []api.Rule{yes, rule(true, 256, 0, 0)}, api.ErrRange},
		{"a prefix of 33 bits", []api.Rule{rule(true, 0, 0, 33), yes}, api.ErrRange},
		{"a prefix with a bit more", []api.Rule{yes, rule(true, 0, 1, 31)}, api.ErrRange},
		{"ports that fall", []api.Rule{yes, falls}, api.ErrRange},
		{"a port below 0", []api.Rule{{From: -1}}, api.ErrRange},
		{"a port of 65536", []api.Rule{{Upto: 65536}}, api.ErrRange},
	} {
		wantCheck(t, one.name, changed(func(c *api.Tenant) { c.Rules = one.rules }), one.want)
	}
}

// TestCheckSeveral is promise 23.1 of configurations in which several things are wrong, or nothing is there at all.
func TestCheckSeveral(t *testing.T) {
	wantCheck(t, "nothing", api.Tenant{}, api.ErrRange)
	wantCheck(t, "all wrong", api.Tenant{Psk: strings.Repeat("k", 65), Rules: []api.Rule{{Proto: -1}}, Rate: -1, Burst: -1, Quota: -1, Queue: -1}, api.ErrRange)
	wantCheck(t, "the least", api.Tenant{Psk: "k", Queue: 1}, api.OK)
	wantCheck(t, "the greatest", api.Tenant{Psk: strings.Repeat("k", 64), Rules: slices.Repeat([]api.Rule{rule(false, 255, math.MaxUint32, 32)}, 32), Rate: 1 << 30, Burst: 1 << 30, Quota: 4, Queue: 32, Pool: math.MaxUint32, Seed: math.MaxUint64}, api.OK)
}

// TestNew is promise 23.1 to 23.4 of a machine to which nothing came.
func TestNew(t *testing.T) {
	x := newPair(t, base())
	x.wantState(0, 0)
	x.wantTunnels()
	x.wantDropped(0)
	for range 3 {
		x.tick()
		if s, sent, e, emitted := x.slot(); s != "" || sent || e != (api.Emit{}) || emitted {
			t.Errorf("Slot is %q, %v, %v, %v", s, sent, e, emitted)
		}
	}
}
