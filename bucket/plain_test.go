package bucket_test

import (
	"math/big"
	"testing"

	"vizard/bucket"
)

// plain is a second bucket, of numbers without bounds.
type plain struct {
	rate, burst, in, taken, refused *big.Int
}

func bound(n int64) *big.Int {
	switch {
	case n < 0:
		return big.NewInt(0)
	case n > 1<<30:
		return big.NewInt(1 << 30)
	}
	return big.NewInt(n)
}

func newPlain(rate, burst int) *plain {
	return &plain{rate: bound(int64(rate)), burst: bound(int64(burst)), in: bound(int64(burst)), taken: new(big.Int), refused: new(big.Int)}
}

func (p *plain) tick(n int64) {
	p.in.Add(p.in, new(big.Int).Mul(p.rate, bound(n)))
	if p.in.Cmp(p.burst) > 0 {
		p.in.Set(p.burst)
	}
}

func (p *plain) take(n int) bool {
	size := big.NewInt(int64(n))
	if size.Sign() >= 0 && size.Cmp(p.in) <= 0 {
		p.in.Sub(p.in, size)
		p.taken.Add(p.taken, size)
		return true
	}
	if size.Sign() > 0 {
		p.refused.Add(p.refused, size)
	}
	return false
}

// wrapped is what is left of a number in 64 bits.
func wrapped(n *big.Int) int64 {
	return int64(new(big.Int).And(n, new(big.Int).SetUint64(1<<64-1)).Uint64())
}

// both is a bucket and its second.
type both struct {
	b *bucket.Bucket
	p *plain
}

func newBoth(t *testing.T, name string, rate, burst int) both {
	t.Helper()
	x := both{bucket.New(rate, burst), newPlain(rate, burst)}
	if x.b == nil {
		t.Fatalf("%s: New(%d, %d) is nil", name, rate, burst)
	}
	x.hold(t, name)
	return x
}

// hold asks a bucket all that may be asked without a change, twice.
func (x both) hold(t *testing.T, name string) {
	t.Helper()
	for range 2 {
		if n := x.b.Level(); n != x.p.in.Int64() {
			t.Fatalf("%s: Level is %d, want %d", name, n, x.p.in)
		}
		taken, refused := x.b.Counts()
		if taken != wrapped(x.p.taken) || refused != wrapped(x.p.refused) {
			t.Fatalf("%s: Counts are %d, %d; want %d, %d", name, taken, refused, wrapped(x.p.taken), wrapped(x.p.refused))
		}
	}
}

func (x both) tick(t *testing.T, name string, n int64) {
	t.Helper()
	x.b.Tick(n)
	x.p.tick(n)
	x.hold(t, name)
}

func (x both) take(t *testing.T, name string, n int) {
	t.Helper()
	in := x.b.Level()
	if yes, want := x.b.Take(n), x.p.take(n); yes != want {
		t.Fatalf("%s: with %d in, Take(%d) is %v, want %v", name, in, n, yes, want)
	}
	x.hold(t, name)
}

// drain takes bytes until so many are left.
func (x both) drain(t *testing.T, name string, left int64) {
	t.Helper()
	x.take(t, name, int(x.b.Level()-left))
	if n := x.b.Level(); n != left {
		t.Fatalf("%s: Level is %d, want %d", name, n, left)
	}
}

func wantLevel(t *testing.T, name string, b *bucket.Bucket, want int64) {
	t.Helper()
	if n := b.Level(); n != want {
		t.Fatalf("%s: Level is %d, want %d", name, n, want)
	}
}

func wantCounts(t *testing.T, name string, b *bucket.Bucket, taken, refused int64) {
	t.Helper()
	if x, y := b.Counts(); x != taken || y != refused {
		t.Fatalf("%s: Counts are %d, %d; want %d, %d", name, x, y, taken, refused)
	}
}

func wantTake(t *testing.T, name string, b *bucket.Bucket, n int, want bool) {
	t.Helper()
	if yes := b.Take(n); yes != want {
		t.Fatalf("%s: with %d in, Take(%d) is %v, want %v", name, b.Level(), n, yes, want)
	}
}
