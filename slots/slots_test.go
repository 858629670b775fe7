package slots_test

import (
	"fmt"
	"math"
	"slices"
	"testing"

	"vizard/slots"
)

// ticks are those at the ends of what they may be, beside those of a table of n members.
func ticks(n int) []int64 {
	size := int64(n)
	return []int64{
		math.MinInt64, math.MinInt64 + 1, -end - 1, -end, math.MinInt32, -size - 1, -size, -size + 1, -2, -1,
		0, 1, 2, size / 2, size - 2, size - 1, size, size + 1, 2*size - 1, 2 * size, 2*size + 1, 3*size + 2,
		math.MaxInt32, math.MaxInt32 + 1, 1 << 32, 1<<32 + 1, 1 << 53, 1<<53 + 1, end - 1 - size, end - size, end - 2, end - 1,
		end, end + 1, end + size, math.MaxInt64 - size, math.MaxInt64 - 1, math.MaxInt64,
	}
}

// whos are numbers of tenants at the ends of what they may be.
var whos = []int{math.MinInt, math.MinInt + 1, math.MinInt32, -2, -1, 0, 1, 2, 3, 7, math.MaxInt32, 1 << 32, math.MaxInt - 1, math.MaxInt}

// among is a table of n members, of which those at some places are who's, and the others are other's.
func among(n int, other, who int, at ...int) []int {
	table := make([]int, n)
	for i := range table {
		table[i] = other
	}
	for _, place := range at {
		table[place] = who
	}
	return table
}

func wantOwner(t *testing.T, table []int, tick int64, want int) {
	t.Helper()
	if who := slots.Owner(table, tick); who != want {
		t.Errorf("Owner(%d members, %d) is %d, want %d", len(table), tick, who, want)
	}
}

func wantTurn(t *testing.T, table []int, tick int64, who int, want int64) {
	t.Helper()
	if turn := slots.Turn(table, tick, who); turn != want {
		t.Errorf("Turn(%d members, %d, %d) is %d, want %d", len(table), tick, who, turn, want)
	}
}

func wantRound(t *testing.T, table []int, who int, want int64) {
	t.Helper()
	if round := slots.Round(table, who); round != want {
		t.Errorf("Round(%d members, %d) is %d, want %d", len(table), who, round, want)
	}
}

// TestExample is promises 21.1 and 21.2 of the chapter's example, and of the ticks beside those that it names.
func TestExample(t *testing.T) {
	table := []int{0, 1, 0, -1}
	for tick, who := range []int{0, 1, 0, -1, 0, 1, 0, -1, 0, 1, 0, -1, 0} {
		wantOwner(t, table, int64(tick), who)
	}
	for tick, turn := range []int64{0, 2, 2, 4, 4, 6, 6, 8, 8} {
		wantTurn(t, table, int64(tick), 0, turn)
	}
	for tick, turn := range []int64{1, 1, 5, 5, 5, 5, 9, 9, 9} {
		wantTurn(t, table, int64(tick), 1, turn)
	}
	wantTurn(t, table, 0, 2, -1)
	wantTurn(t, table, 0, -1, -1)
	wantRound(t, table, 0, 2)
	wantRound(t, table, 1, 4)
	wantRound(t, table, 2, 0)
	wantRound(t, table, -1, 0)
	if a, b := slots.Class(129), slots.Class(1201); a != 256 || b != 0 {
		t.Errorf("classes %d, %d", a, b)
	}
}

// TestNoMembers is promise 21.1 of tables without members: no tick is anyone's.
func TestNoMembers(t *testing.T) {
	for _, table := range [][]int{nil, {}, handed(nil)} {
		for _, tick := range ticks(0) {
			wantOwner(t, table, tick, -1)
			for _, who := range whos {
				wantTurn(t, table, tick, who, -1)
			}
		}
		for _, who := range whos {
			wantRound(t, table, who, 0)
		}
	}
}

// TestOneMember is promise 21.1 of tables with one member: all ticks from 0 on are its, or nobody's.
func TestOneMember(t *testing.T) {
	for _, member := range whos {
		table := []int{member}
		for _, tick := range ticks(1) {
			owner, turn := -1, int64(-1)
			if member >= 0 && tick >= 0 {
				owner = member
			}
			if member >= 0 && tick >= 0 && tick <= 1<<62-1 {
				turn = tick
			}
			wantOwner(t, table, tick, owner)
			wantTurn(t, table, tick, member, turn)
			wantTurn(t, table, tick, member^1, -1)
		}
		round := int64(1)
		if member < 0 {
			round = 0
		}
		wantRound(t, table, member, round)
		wantRound(t, table, member^1, 0)
	}
}

// TestMembers is promise 21.1 of members at the ends of what they may be: those from 0 on are told as they are, those below 0 as -1, and have no turn.
func TestMembers(t *testing.T) {
	for i, member := range whos {
		at := int64(i)
		size := int64(len(whos))
		want := member
		if member < 0 {
			want = -1
		}
		wantOwner(t, whos, at, want)
		wantOwner(t, whos, at+3*size, want)
		if member < 0 {
			wantTurn(t, whos, 0, member, -1)
			wantTurn(t, whos, at, member, -1)
			wantRound(t, whos, member, 0)
			continue
		}
		wantTurn(t, whos, 0, member, at)
		wantTurn(t, whos, at, member, at)
		wantTurn(t, whos, at+1, member, at+size)
		wantRound(t, whos, member, size)
	}
	nobodys := []int{-1, math.MinInt, -2, -1, math.MinInt}
	for _, tick := range ticks(len(nobodys)) {
		wantOwner(t, nobodys, tick, -1)
		for _, who := range whos {
			wantTurn(t, nobodys, tick, who, -1)
			wantRound(t, nobodys, who, 0)
		}
	}
}

// TestOwnerTicks is promise 21.1 of Owner at ticks at the ends of what they may be, in tables of many lengths, those of more than 2^16 members too.
func TestOwnerTicks(t *testing.T) {
	for _, n := range []int{1, 2, 3, 5, 64, 100, most - 1, most, most + 1, most + 2, 3*most + 7} {
		table := make([]int, n)
		for i := range table {
			table[i] = i
		}
		for _, tick := range ticks(n) {
			want := -1
			if tick >= 0 {
				want = int(uint64(tick) % uint64(n))
			}
			wantOwner(t, table, tick, want)
			holdOwner(t, "each its own", table, tick)
		}
	}
}

// TestOwnerFar is promise 21.1 of Owner at ticks whose members were counted by hand: 2^62 and 2^63 are 1 and 2 behind what 3 divides.
func TestOwnerFar(t *testing.T) {
	three := []int{5, 6, -7}
	wantOwner(t, three, 1<<62-1, 5)
	wantOwner(t, three, 1<<62, 6)
	wantOwner(t, three, 1<<62+1, -1)
	wantOwner(t, three, math.MaxInt64, 6)
	wantOwner(t, three, math.MaxInt64-1, 5)
	wantOwner(t, three, math.MaxInt64-2, -1)
	wantOwner(t, three, math.MinInt64, -1)
	two := []int{8, 9}
	wantOwner(t, two, 1<<62-1, 9)
	wantOwner(t, two, 1<<62, 8)
	wantOwner(t, two, math.MaxInt64, 9)
}

// TestTurnTicks is promise 21.1 of Turn from ticks at the ends of what they may be: the tick itself is who's, the next one is, it lies behind the table's end, it is the last of a table's round.
func TestTurnTicks(t *testing.T) {
	for _, n := range []int{2, 3, 5, 64} {
		size := int64(n)
		for place := range n {
			table := among(n, 1, 0, place)
			for _, tick := range ticks(n) {
				holdTurn(t, "once", table, tick, 0)
				holdTurn(t, "all but once", table, tick, 1)
				holdTurn(t, "never", table, tick, 2)
				holdTurn(t, "nobody", table, tick, -1)
			}
			for _, rounds := range []int64{0, 1, 1000, (end - 1 - 3*size) / size} {
				at := rounds*size + int64(place)
				wantTurn(t, table, at, 0, at)
				wantTurn(t, table, max(at-1, 0), 0, at)
				wantTurn(t, table, at+1, 0, at+size)
				wantTurn(t, table, at+1, 1, at+1)
				wantTurn(t, table, at, 1, at+1)
				wantTurn(t, table, rounds*size, 0, at)
				wantTurn(t, table, (rounds+1)*size, 0, at+size)
				wantTurn(t, table, (rounds+1)*size-1, 0, behind(at, size, (rounds+1)*size-1))
			}
		}
	}
}

// behind is at, or so much more, if a tick is above it.
func behind(at, more, tick int64) int64 {
	if at < tick {
		return at + more
	}
	return at
}

// TestTurnEnd is promise 21.1 of Turn at the last tick that it may be asked from: what it answers may lie behind it, and one tick later it is none.
func TestTurnEnd(t *testing.T) {
	three := []int{5, 6, -7} // 2^62 - 1 is the first one's
	wantTurn(t, three, 1<<62-1, 5, 1<<62-1)
	wantTurn(t, three, 1<<62-1, 6, 1<<62)
	wantTurn(t, three, 1<<62-2, 5, 1<<62-1)
	wantTurn(t, three, 1<<62-3, 6, 1<<62-3)
	wantTurn(t, []int{-7, 5, 6}, 1<<62-1, 6, 1<<62+1)
	for _, who := range []int{5, 6, -7, 0} {
		wantTurn(t, three, 1<<62, who, -1)
		wantTurn(t, three, 1<<62+1, who, -1)
		wantTurn(t, three, math.MaxInt64, who, -1)
		wantTurn(t, three, -1, who, -1)
		wantTurn(t, three, -3, who, -1)
		wantTurn(t, three, math.MinInt64, who, -1)
	}
	great := among(most, -1, 3, most-1) // 2^62 is the first one's
	wantTurn(t, great, 1<<62-1, 3, 1<<62-1)
	wantTurn(t, great, 1<<62-2, 3, 1<<62-1)
	wantTurn(t, great, 1<<62-most, 3, 1<<62-1)
	great = among(most, -1, 3, most-2)
	wantTurn(t, great, 1<<62-1, 3, 1<<62+most-2)
	wantTurn(t, great, 1<<62, 3, -1)
}

// TestGreatTables is promise 21.1 of tables of 2^16 members, of one less and of one more: the last one has owners, but no turns and no rounds.
func TestGreatTables(t *testing.T) {
	for _, n := range []int{most - 1, most, most + 1, 2 * most} {
		size := int64(n)
		for _, place := range []int{0, 1, n / 2, n - 2, n - 1} {
			table := among(n, -1, 4, place)
			at := int64(place)
			wantOwner(t, table, at, 4)
			wantOwner(t, table, at+size, 4)
			wantOwner(t, table, at+size+1, -1)
			if n > most {
				wantTurn(t, table, 0, 4, -1)
				wantTurn(t, table, at, 4, -1)
				wantRound(t, table, 4, 0)
				continue
			}
			wantTurn(t, table, 0, 4, at)
			wantTurn(t, table, at, 4, at)
			wantTurn(t, table, at+1, 4, at+size)
			wantTurn(t, table, size, 4, at+size)
			wantTurn(t, table, at, 5, -1)
			wantRound(t, table, 4, size)
			wantRound(t, table, 5, 0)
			wantRound(t, table, -1, 0)
		}
	}
	wantRound(t, among(most, 4, 4), 4, 1)
	wantRound(t, among(most+1, 4, 4), 4, 0)
}

// TestRoundOnce is promise 21.1 of Round of who stands once in a table, at each place: all its members.
func TestRoundOnce(t *testing.T) {
	for _, n := range []int{1, 2, 3, 4, 7, 64, 1000} {
		for place := range n {
			wantRound(t, among(n, -1, 6, place), 6, int64(n))
			wantRound(t, among(n, 5, 6, place), 6, int64(n))
			wantRound(t, among(n, 5, 6, place), 7, 0)
			wantRound(t, among(n, 5, 6, place), -6, 0)
		}
	}
}

// TestRoundTwice is promise 21.1 of Round of who stands at two places, each pair of them: the longer of the way between them and the way across the table's end.
func TestRoundTwice(t *testing.T) {
	for n := 2; n <= 24; n++ {
		for second := range n {
			for first := range second {
				table := among(n, -1, 6, first, second)
				wantRound(t, table, 6, int64(max(second-first, n-(second-first))))
				for tick := range 3 * int64(n) {
					holdTurn(t, "at two", table, tick, 6)
				}
			}
		}
	}
	wantRound(t, []int{6, 6, 0, 0, 0}, 6, 4)
	wantRound(t, []int{0, 6, 6, 0, 0}, 6, 4)
	wantRound(t, []int{0, 0, 0, 6, 6}, 6, 4)
	wantRound(t, []int{6, 0, 0, 0, 6}, 6, 4)
	wantRound(t, []int{0, 6, 0, 6, 0}, 6, 3)
	wantRound(t, []int{6, 0, 6, 0, 0}, 6, 3)
	wantRound(t, []int{0, 0, 6, 0, 6, 6, 0, 0, 0}, 6, 6)
}

// TestRoundEach is promise 21.1 of Round of who stands everywhere, and of all but one place.
func TestRoundEach(t *testing.T) {
	for _, n := range []int{1, 2, 3, 4, 7, 64, 1000} {
		wantRound(t, among(n, 6, 6), 6, 1)
		for place := range n {
			want := int64(2)
			if n == 1 {
				want = 0
			}
			wantRound(t, among(n, 6, 5, place), 6, want)
		}
	}
}

// TestNothingKept is promise 21.1 and rule R4: tables that were handed in are neither changed nor kept, so that one that was changed is another.
func TestNothingKept(t *testing.T) {
	table := handed([]int{0, 1, 0, -1})
	for range 2 {
		wantOwner(t, table, 5, 1)
		wantTurn(t, table, 5, 0, 6)
		wantRound(t, table, 0, 2)
	}
	wantSame(t, "asked", table, []int{0, 1, 0, -1})
	table[1], table[2] = -9, 7
	wantOwner(t, table, 5, -1)
	wantTurn(t, table, 5, 0, 8)
	wantRound(t, table, 0, 4)
	wantSame(t, "changed", table, []int{0, -9, 7, -1})
	longer := table[:6] // the room behind its end, where 0 and 1 lie
	wantOwner(t, longer, 5, 1)
	wantTurn(t, longer, 1, 0, 4)
	wantRound(t, longer, 0, 4)
	wantRound(t, table[1:3], 7, 2)
}

// TestClass is promise 21.2 of numbers at the edges of each size, and at the ends of what they may be.
func TestClass(t *testing.T) {
	for _, one := range []struct{ n, size int }{
		{math.MinInt, 0}, {math.MinInt + 1, 0}, {math.MinInt32, 0}, {-1200, 0}, {-128, 0}, {-2, 0}, {-1, 0},
		{0, 128}, {1, 128}, {2, 128}, {44, 128}, {45, 128}, {46, 128}, {127, 128}, {128, 128},
		{129, 256}, {130, 256}, {255, 256}, {256, 256},
		{257, 512}, {258, 512}, {511, 512}, {512, 512},
		{513, 1200}, {514, 1200}, {1024, 1200}, {1199, 1200}, {1200, 1200},
		{1201, 0}, {1202, 0}, {1280, 0}, {2048, 0}, {65535, 0}, {65536, 0}, {math.MaxInt32, 0}, {1 << 32, 0}, {1<<32 + 1, 0}, {math.MaxInt - 1, 0}, {math.MaxInt, 0},
	} {
		if size := slots.Class(one.n); size != one.size {
			t.Errorf("Class(%d) is %d, want %d", one.n, size, one.size)
		}
	}
}

// TestClassEach is promise 21.2 of every number from below 0 to above all sizes: the least of Classes that is at least it.
func TestClassEach(t *testing.T) {
	for n := -3000; n <= 3000; n++ {
		least := 0
		for _, size := range slices.Backward(slots.Classes()) {
			if n >= 0 && size >= n {
				least = size
			}
		}
		if size := slots.Class(n); size != least || size != plainClass(n) {
			t.Errorf("Class(%d) is %d, want %d", n, size, least)
		}
	}
}

// TestClasses is promise 21.2 and rule R4: the sizes, rising; whatever is done with what it told, later answers are the same.
func TestClasses(t *testing.T) {
	for i := range 10 {
		name := fmt.Sprintf("the %dth time", i)
		sizes := slots.Classes()
		if !slices.Equal(sizes, []int{128, 256, 512, 1200}) {
			t.Fatalf("%s: Classes is %v", name, sizes)
		}
		if slots.Class(1) != 128 || slots.Class(200) != 256 || slots.Class(400) != 512 || slots.Class(600) != 1200 || slots.Class(1201) != 0 {
			t.Fatalf("%s: Class is another", name)
		}
		again := slots.Classes()
		if &sizes[0] == &again[0] {
			t.Fatalf("%s: two answers share their memory", name)
		}
		for j := range sizes {
			sizes[j] = 1 << j
		}
		_ = append(again[:i%4], 9999, 1, 2)
	}
}
