package slots_test

import (
	"encoding/binary"
	"fmt"
	"math"
	"math/rand"
	"testing"

	"vizard/slots"
)

// holdTable is promises 21.1 and 21.3 of one table, for some numbers of tenants, at each tick of three rounds and at the ends.
func holdTable(t *testing.T, name string, table []int, all []int) {
	t.Helper()
	holdRows(t, name, table, all, 0)
	for _, tick := range ticks(len(table)) {
		holdOwner(t, name, table, tick)
		for _, who := range all {
			holdTurn(t, name, table, tick, who)
		}
	}
}

// holdRows is promises 21.1 and 21.3 of one table at each tick of three rounds: what Turn and Round answer is what Owner says, tick by tick.
func holdRows(t *testing.T, name string, table []int, all []int, from int64) {
	t.Helper()
	for _, who := range all {
		round := holdRound(t, name, table, who)
		own := int64(-1)  // who's last tick
		long := int64(0)  // the greatest distance that was seen
		turn := int64(-1) // what Turn says of the ticks up to it
		for tick := from; tick < from+3*int64(len(table)); tick++ {
			next := holdTurn(t, name, table, tick, who)
			if tick > from && next != turn && turn != tick-1 {
				t.Fatalf("%s: the next one of %d is %d from %d on, and was %d ahead of it", name, who, next, tick, turn)
			}
			turn = next
			if who < 0 || holdOwner(t, name, table, tick) != who {
				continue
			}
			if next != tick {
				t.Fatalf("%s: %d is %d's, but the next one is %d", name, tick, who, next)
			}
			if own >= 0 {
				long = max(long, tick-own)
			}
			own = tick
		}
		if long != round {
			t.Fatalf("%s: the greatest distance of %d is %d, Round says %d", name, who, long, round)
		}
		for tick := from; tick < from+int64(len(table)) && round > 0; tick++ {
			holdNext(t, name, table, tick, who, round)
		}
	}
}

// TestSmallTables is promises 21.1 and 21.3 of every table of up to five members, of three tenants and nobody.
func TestSmallTables(t *testing.T) {
	members := []int{-1, 0, 1, 2}
	for size := range 6 {
		rows := 1 << (2 * size)
		for row := range rows {
			table := make([]int, size)
			for i := range table {
				table[i] = members[row>>(2*i)&3]
			}
			holdTable(t, fmt.Sprint(table), table, []int{-1, 0, 1, 2, 3})
		}
	}
}

// someTable is a table drawn at random, in which some stand often and some seldom.
func someTable(r *rand.Rand) []int {
	table := make([]int, 1+r.Intn(1+r.Intn(200)))
	kinds := 1 + r.Intn(8)
	for i := range table {
		switch r.Intn(8) {
		case 0:
			table[i] = whos[r.Intn(len(whos))]
		case 1:
			table[i] = -r.Intn(3)
		case 2, 3:
			table[i] = r.Intn(kinds) * r.Intn(kinds)
		case 4:
			if i > 0 {
				table[i] = table[i-1]
			}
		default:
			table[i] = r.Intn(2) * r.Intn(kinds)
		}
	}
	return table
}

// TestRandomTables is promises 21.1 and 21.3 of tables drawn at random, from 0 on and from ticks far behind it.
func TestRandomTables(t *testing.T) {
	r := rand.New(rand.NewSource(21))
	for row := range 150 {
		table := someTable(r)
		name := fmt.Sprintf("table %d", row)
		all := []int{-1, 0, 1, table[r.Intn(len(table))], r.Intn(40), whos[r.Intn(len(whos))]}
		holdTable(t, name, table, all)
		holdRows(t, name+", far", table, all[1:4], r.Int63n(end-1000))
	}
}

// TestNextIsNear is promise 21.3 of tables drawn at random: from every tick of a round on, who's next one is fewer than Round ticks away, and from one of them on it is just one fewer.
func TestNextIsNear(t *testing.T) {
	r := rand.New(rand.NewSource(22))
	for row := range 1500 {
		table := someTable(r)
		who := max(table[r.Intn(len(table))], 0)
		round := slots.Round(table, who)
		if round == 0 {
			continue
		}
		name := fmt.Sprintf("table %d", row)
		for _, from := range []int64{0, r.Int63(), end - int64(len(table))} {
			far := int64(-1)
			for tick := from % end; tick < from%end+int64(len(table)) && tick < end; tick++ {
				holdNext(t, name, table, tick, who, round)
				far = max(far, slots.Turn(table, tick, who)-tick)
			}
			if from%end+int64(len(table)) <= end && far != round-1 {
				t.Fatalf("%s: from %d on, %d's next one is at most %d away, Round is %d", name, from, who, far, round)
			}
		}
	}
}

// TestGreatRandomTables is promises 21.1 and 21.3 of tables of about 2^16 members drawn at random.
func TestGreatRandomTables(t *testing.T) {
	r := rand.New(rand.NewSource(23))
	for row := range 20 {
		table := among(most-2+row%5, -1, 0)
		for range 1 + r.Intn(5) {
			table[r.Intn(len(table))] = r.Intn(3)
		}
		name := fmt.Sprintf("table %d of %d members", row, len(table))
		for who := -1; who <= 2; who++ {
			round := holdRound(t, name, table, who)
			for range 4 {
				tick := r.Int63n(end)
				holdOwner(t, name, table, tick)
				holdTurn(t, name, table, tick, who)
				if round > 0 {
					holdNext(t, name, table, tick, who, round)
				}
			}
		}
	}
}

// FuzzTable is promises 21.1 to 21.3 of any table, tick, tenant and number of bytes: a byte of members is a small number, below 0 too.
func FuzzTable(f *testing.F) {
	f.Add([]byte("\x00\x01\x00\xff"), int64(5), 0, 129, 1)
	f.Add([]byte(""), int64(math.MaxInt64), math.MaxInt, math.MinInt, 1)
	f.Add([]byte("\x80\x7f"), int64(1<<62-1), 127, 1200, 3)
	f.Add([]byte("\x01"), int64(1<<62), 1, 0, 1<<16)
	f.Add([]byte("\x02"), int64(-1), -1, 1201, 1<<16+1)
	f.Fuzz(func(t *testing.T, members []byte, tick int64, who, n, times int) {
		members = members[:min(len(members), 300)]
		table := make([]int, 0, len(members))
		for range 1 + uint(times)%3 {
			for _, b := range members {
				table = append(table, int(int8(b)))
			}
		}
		if len(members) >= 8 {
			table = append(table, int(binary.BigEndian.Uint64(members)))
		}
		holdOwner(t, "fuzz", table, tick)
		turn, round := holdTurn(t, "fuzz", table, tick, who), holdRound(t, "fuzz", table, who)
		if (turn >= 0) != (round > 0 && tick >= 0 && tick < end) {
			t.Errorf("Turn is %d, Round is %d", turn, round)
		}
		if turn >= 0 {
			holdNext(t, "fuzz", table, tick, who, round)
		}
		if size := slots.Class(n); size != plainClass(n) {
			t.Errorf("Class(%d) is %d", n, size)
		}
	})
}
