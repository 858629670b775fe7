package slots_test

import (
	"math/big"
	"slices"
	"testing"

	"vizard/slots"
)

// most is how many members a table may have for Turn and Round.
const most = 1 << 16

// end is the first tick from which on Turn finds none.
const end = 1 << 62

// place is which member a tick is, told by numbers without bounds.
func place(n int, tick int64) int {
	return int(new(big.Int).Mod(big.NewInt(tick), big.NewInt(int64(n))).Int64())
}

// places is where someone stands in a table.
func places(table []int, who int) []int {
	var all []int
	for i, member := range table {
		if member == who {
			all = append(all, i)
		}
	}
	return all
}

// plainOwner is a second Owner.
func plainOwner(table []int, tick int64) int {
	if len(table) == 0 || tick < 0 {
		return -1
	}
	if member := table[place(len(table), tick)]; member >= 0 {
		return member
	}
	return -1
}

// plainTurn is a second Turn, that asks of each place of someone's how far it is away.
func plainTurn(table []int, tick int64, who int) int64 {
	all := places(table, who)
	if len(table) > most || tick < 0 || tick >= end || who < 0 || len(all) == 0 {
		return -1
	}
	var away []int
	for _, one := range all {
		away = append(away, place(len(table), int64(one)-int64(place(len(table), tick))))
	}
	return tick + int64(slices.Min(away))
}

// plainRound is a second Round, that measures from each place of someone's to the one that follows, and from the last one to the first.
func plainRound(table []int, who int) int64 {
	all := places(table, who)
	if len(table) > most || who < 0 || len(all) == 0 {
		return 0
	}
	far := all[0] + len(table) - all[len(all)-1]
	for i := range all[1:] {
		far = max(far, all[i+1]-all[i])
	}
	return int64(far)
}

// plainClass is a second Class.
func plainClass(n int) int {
	switch {
	case n < 0, n >= 1201:
		return 0
	case n >= 513:
		return 1200
	case n >= 257:
		return 512
	case n >= 129:
		return 256
	}
	return 128
}

// spare is what lies in the room behind a table's end.
var spare = []int{0, 1, 2, 3, -7}

// handed is a table with room behind its end, as it is handed in.
func handed(table []int) []int {
	return append(slices.Clone(table), spare...)[:len(table)]
}

// wantSame asks that a table was not changed, nor the room behind its end.
func wantSame(t *testing.T, name string, given, table []int) {
	t.Helper()
	if !slices.Equal(given, table) || !slices.Equal(given[len(table):len(table)+len(spare)], spare) {
		t.Fatalf("%s: the table was changed", name)
	}
}

func holdOwner(t *testing.T, name string, table []int, tick int64) int {
	t.Helper()
	given := handed(table)
	who, want := slots.Owner(given, tick), plainOwner(table, tick)
	if who != want {
		t.Fatalf("%s: Owner(%d members, %d) is %d, want %d", name, len(table), tick, who, want)
	}
	wantSame(t, name, given, table)
	return who
}

func holdTurn(t *testing.T, name string, table []int, tick int64, who int) int64 {
	t.Helper()
	given := handed(table)
	turn, want := slots.Turn(given, tick, who), plainTurn(table, tick, who)
	if turn != want {
		t.Fatalf("%s: Turn(%d members, %d, %d) is %d, want %d", name, len(table), tick, who, turn, want)
	}
	wantSame(t, name, given, table)
	return turn
}

func holdRound(t *testing.T, name string, table []int, who int) int64 {
	t.Helper()
	given := handed(table)
	round, want := slots.Round(given, who), plainRound(table, who)
	if round != want {
		t.Fatalf("%s: Round(%d members, %d) is %d, want %d", name, len(table), who, round, want)
	}
	wantSame(t, name, given, table)
	return round
}

// holdNext is promise 21.3 of one tick: someone's next one is fewer than round ticks away, and the one behind it is at most round.
func holdNext(t *testing.T, name string, table []int, tick int64, who int, round int64) {
	t.Helper()
	turn := slots.Turn(table, tick, who)
	if turn < tick || turn-tick >= round {
		t.Fatalf("%s: from %d on the next one of %d is %d, not fewer than %d away", name, tick, who, turn, round)
	}
	if slots.Owner(table, turn) != who {
		t.Fatalf("%s: from %d on the next one of %d is %d, which is another's", name, tick, who, turn)
	}
	if turn+1 >= end {
		return
	}
	if next := slots.Turn(table, turn+1, who); next <= turn || next-turn > round {
		t.Fatalf("%s: behind %d the next one of %d is %d, more than %d away", name, turn, who, next, round)
	}
}
