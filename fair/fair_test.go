package fair_test

import (
	"fmt"
	"math"
	"slices"
	"strconv"
	"strings"
	"testing"

	"vizard/api"
	"vizard/fair"
)

// edges are limits and quantums at the ends of what they may be, and far beyond, with what they are taken as.
var edges = []struct{ given, taken int }{
	{math.MinInt, 1}, {math.MinInt + 1, 1}, {math.MinInt32, 1}, {-most, 1}, {-2, 1}, {-1, 1}, {0, 1}, {1, 1}, {2, 2}, {3, 3},
	{most - 1, most - 1}, {most, most}, {most + 1, most}, {math.MaxInt32, most}, {1 << 32, most}, {1<<32 + 1, most}, {math.MaxInt - 1, most}, {math.MaxInt, most},
}

// ids are numbers at the ends of what they may be.
var ids = []int64{math.MinInt64, math.MinInt64 + 1, -1 << 32, -2, -1, 0, 1, 2, 1 << 32, math.MaxInt64 - 1, math.MaxInt64}

func bytes(n int) string {
	return strings.Repeat("x", n)
}

func wantPush(t *testing.T, name string, q *fair.Queues, id int64, s string, want api.Errno) {
	t.Helper()
	if e := q.Push(id, s); e != want {
		t.Fatalf("%s: Push(%d, %d bytes) is %d, want %d", name, id, len(s), e, want)
	}
}

func wantNext(t *testing.T, name string, q *fair.Queues, id int64, s string) {
	t.Helper()
	if i, x, ok := q.Next(); i != id || x != s || !ok {
		t.Fatalf("%s: Next is %d, %d bytes, %v; want %d, %d bytes, true", name, i, len(x), ok, id, len(s))
	}
}

func wantNone(t *testing.T, name string, q *fair.Queues) {
	t.Helper()
	for range 2 {
		if id, s, ok := q.Next(); id != 0 || s != "" || ok {
			t.Fatalf("%s: Next is %d, %d bytes, %v; want none", name, id, len(s), ok)
		}
	}
}

func wantDrop(t *testing.T, name string, q *fair.Queues, id int64, want int) {
	t.Helper()
	if n := q.Drop(id); n != want {
		t.Fatalf("%s: Drop(%d) is %d, want %d", name, id, n, want)
	}
}

func wantCount(t *testing.T, name string, q *fair.Queues, want int) {
	t.Helper()
	if n := q.Count(); n != want {
		t.Fatalf("%s: Count is %d, want %d", name, n, want)
	}
}

// play does what a text says, and wants of each step what it says: words that are an id and a packet are pushed behind +, refused behind ! (as the queue is full), and are what Next is to answer behind >; - is Drop of an id, with how many there are to be; . is Next of none. Behind each step Count is asked.
func play(t *testing.T, name string, limit, quantum int, steps string) {
	t.Helper()
	q := fair.New(limit, quantum)
	count := 0
	for _, step := range strings.Split(steps, ", ") {
		words := strings.Split(step, " ")
		at := name + ": " + step
		if words[0] == "." {
			wantNone(t, at, q)
			continue
		}
		id, err := strconv.ParseInt(words[1], 10, 64)
		if err != nil {
			t.Fatalf("%s: %v", at, err)
		}
		s := strings.Join(words[2:], "")
		switch words[0] {
		case "+":
			wantPush(t, at, q, id, s, api.OK)
			count++
		case "!":
			wantPush(t, at, q, id, s, api.ErrFull)
		case ">":
			wantNext(t, at, q, id, s)
			count--
		case "-":
			n, _ := strconv.Atoi(s)
			wantDrop(t, at, q, id, n)
			count -= n
		default:
			t.Fatalf("%s: no step", at)
		}
		wantCount(t, at, q, count)
	}
	wantCount(t, name+" at the end", q, 0)
	wantNone(t, name+" at the end", q)
}

// TestExample is promises 20.1 to 20.3 of the chapter's example.
func TestExample(t *testing.T) {
	play(t, "example", 9, 4, "+ 1 abc, + 1 abc, + 2 bcdef, > 1 abc, > 1 abc, > 2 bcdef, .")
}

// TestNew is promises 20.2 and 20.3 of new queues, at all limits and quantums: nothing waits.
func TestNew(t *testing.T) {
	for _, limit := range edges {
		for _, quantum := range edges {
			name := fmt.Sprintf("New(%d, %d)", limit.given, quantum.given)
			q := fair.New(limit.given, quantum.given)
			wantNone(t, name, q)
			wantCount(t, name, q, 0)
			wantDrop(t, name, q, 0, 0)
			wantPush(t, name, q, 5, "a", api.OK)
			wantCount(t, name, q, 1)
			wantNext(t, name, q, 5, "a")
			wantNone(t, name, q)
			wantCount(t, name, q, 0)
		}
	}
}

// TestLimit is promise 20.1 of every limit: so many packets wait of each id, and not one more; the sizes of those that are pushed to a queue that is empty, one packet from full, full.
func TestLimit(t *testing.T) {
	for _, one := range edges {
		name := fmt.Sprintf("limit %d", one.given)
		q := fair.New(one.given, most)
		wantPush(t, name+", too long for an empty one", q, 3, bytes(65536), api.ErrLong)
		wantCount(t, name, q, 0)
		for i := range one.taken - 1 {
			wantPush(t, name, q, 3, bytes(i%2), api.OK)
		}
		wantPush(t, name+", too long for one that is nearly full", q, 3, bytes(65536), api.ErrLong)
		wantCount(t, name, q, one.taken-1)
		wantPush(t, name+", the last", q, 3, bytes(65535), api.OK)
		wantCount(t, name, q, one.taken)
		for range 2 {
			wantPush(t, name+", nothing to a full one", q, 3, "", api.ErrFull)
			wantPush(t, name+", much to a full one", q, 3, bytes(65535), api.ErrFull)
			wantPush(t, name+", too much to a full one", q, 3, bytes(65536), api.ErrLong)
			wantCount(t, name, q, one.taken)
		}
		wantPush(t, name+", another's", q, 4, "", api.OK)
		wantCount(t, name, q, one.taken+1)
		wantDrop(t, name, q, 3, one.taken)
		wantPush(t, name+", anew", q, 3, "", api.OK)
		wantNext(t, name, q, 4, "")
		wantNext(t, name, q, 3, "")
		wantNone(t, name, q)
	}
}

// TestLimitRefills is promise 20.1 of a full queue: behind each packet that is taken there is room for one, and for one alone.
func TestLimitRefills(t *testing.T) {
	for limit := 1; limit <= 5; limit++ {
		q := fair.New(limit, 100)
		for i := range limit {
			wantPush(t, "filled", q, 1, strconv.Itoa(i), api.OK)
		}
		for i := range 50 {
			name := fmt.Sprintf("limit %d, the %dth", limit, i)
			wantPush(t, name, q, 1, "no", api.ErrFull)
			wantNext(t, name, q, 1, strconv.Itoa(i))
			wantPush(t, name, q, 1, strconv.Itoa(i+limit), api.OK)
			wantPush(t, name, q, 1, "no", api.ErrFull)
			wantCount(t, name, q, limit)
		}
	}
}

// TestPushSizes is promise 20.1 of the sizes that a packet may have, and of longer ones, to a queue of any size.
func TestPushSizes(t *testing.T) {
	for _, limit := range []int{1, 2, 3} {
		for filled := range limit + 1 {
			for _, size := range []int{0, 1, 2, 65534, 65535, 65536, 65537, 1 << 17, 1 << 24} {
				name := fmt.Sprintf("limit %d, %d wait, %d bytes", limit, filled, size)
				x := newBoth(t, name, limit, most)
				for range filled {
					x.push(t, name, 9, "a")
				}
				want := api.OK
				switch {
				case size > 65535:
					want = api.ErrLong
				case filled == limit:
					want = api.ErrFull
				}
				if e := x.push(t, name, 9, bytes(size)); e != want {
					t.Errorf("%s: Push is %d, want %d", name, e, want)
				}
				x.drain(t, name)
			}
		}
	}
}

// TestRefusedChangesNothing is promise 20.1 of a packet that is refused: the round, the deficits and Count are as they were, wherever in a row it comes.
func TestRefusedChangesNothing(t *testing.T) {
	pushed := []packet{{1, "abc"}, {2, "abcdef"}, {1, "abcd"}, {3, "abcdefghijklmnopqrstuvw"}, {3, ""}, {3, "a"}, {2, "ab"}}
	refused := 0
	for _, more := range []packet{{1, bytes(65536)}, {2, bytes(65536)}, {7, bytes(65536)}, {7, bytes(1 << 20)}, {3, ""}, {3, "abc"}, {3, bytes(65535)}, {3, bytes(65536)}} {
		for taken := range len(pushed) + 1 {
			name := fmt.Sprintf("%d bytes of %d, when %d were taken", len(more.s), more.id, taken)
			with, without := newBoth(t, name, 3, 4), newBoth(t, name, 3, 4)
			for _, one := range pushed {
				with.push(t, name, one.id, one.s)
				without.push(t, name, one.id, one.s)
			}
			for range taken {
				with.next(t, name)
				without.next(t, name)
			}
			if with.push(t, name, more.id, more.s) == api.OK {
				continue // its queue is not full any more
			}
			refused++
			wantCount(t, name, with.q, len(pushed)-taken)
			if x, y := with.drain(t, name), without.drain(t, name); !slices.Equal(x, y) {
				t.Errorf("%s: what comes behind it is not the same", name)
			}
		}
	}
	if refused < 5*len(pushed)+3 {
		t.Errorf("only %d were refused", refused)
	}
}

// TestIds is promises 20.1 to 20.3 of ids at the ends of what they may be: each has a queue of its own, and is told with its packets.
func TestIds(t *testing.T) {
	q := fair.New(2, 3)
	for round := range 2 {
		for _, id := range ids {
			wantPush(t, "pushed", q, id, strconv.FormatInt(id%10, 10)+strconv.Itoa(round), api.OK)
		}
	}
	for _, id := range ids {
		wantPush(t, "a third one", q, id, "", api.ErrFull)
	}
	wantCount(t, "all", q, 2*len(ids))
	for i, id := range ids {
		if i%3 == 0 {
			wantDrop(t, "a third of them", q, id, 2)
		}
		wantDrop(t, "no such one", q, id/2+77, 0)
	}
	for round := range 2 {
		for i, id := range ids {
			if i%3 != 0 {
				wantNext(t, "in their order", q, id, strconv.FormatInt(id%10, 10)+strconv.Itoa(round))
			}
		}
	}
	wantNone(t, "all gone", q)
}

// TestQuantum is promises 20.1 and 20.2 of every quantum: in its first turn a queue gets so many bytes, and not one more.
func TestQuantum(t *testing.T) {
	for _, one := range edges {
		name := fmt.Sprintf("quantum %d", one.given)
		q := fair.New(100, one.given)
		var fits []string
		for left := one.taken; left > 0; {
			size := min(left, 65535)
			fits = append(fits, bytes(size))
			left -= size
		}
		for _, s := range fits {
			wantPush(t, name, q, 1, s, api.OK)
		}
		wantPush(t, name, q, 1, "b", api.OK)
		wantPush(t, name, q, 2, "c", api.OK)
		for _, s := range fits {
			wantNext(t, name, q, 1, s)
		}
		wantNext(t, name+", the other", q, 2, "c")
		wantNext(t, name+", in the second turn", q, 1, "b")
		wantNone(t, name, q)
	}
}

// TestNone is promise 20.2 of queues in which no packet waits: new, all taken, all dropped.
func TestNone(t *testing.T) {
	play(t, "none", 3, 2, "., ., + 1 a, > 1 a, ., + 1, > 1, ., + 1 abc, + 2 a, - 1 1, - 2 1, ., - 1 0, ., + 5 abcdefg, > 5 abcdefg, .")
}

// TestAlone is promise 20.2 of one queue alone: its packets come as they were pushed, however long.
func TestAlone(t *testing.T) {
	for _, quantum := range edges {
		name := fmt.Sprintf("quantum %d", quantum.given)
		x := newBoth(t, name, 100, quantum.given)
		var want []packet
		for i, size := range []int{3, 0, 1, 0, 0, 65535, 1, 300, 65535, 65534, 2, 0} {
			want = append(want, packet{6, strconv.Itoa(i)[:min(size, 1)] + bytes(max(size-1, 0))})
			x.push(t, name, 6, want[i].s)
		}
		if got := x.drain(t, name); !slices.Equal(got, want) {
			t.Errorf("%s: another order", name)
		}
	}
}

// TestTurns is promise 20.2 of the steps of a turn, each text of it told beside it.
func TestTurns(t *testing.T) {
	for _, one := range []struct {
		name           string
		limit, quantum int
		steps          string
	}{
		{"as many bytes as the deficit", 9, 3, "+ 1 abc, + 1 d, + 2 e, > 1 abc, > 2 e, > 1 d"},
		{"one byte more than the deficit", 9, 3, "+ 1 abcd, + 2 e, > 2 e, > 1 abcd"},
		{"one byte less than the deficit", 9, 3, "+ 1 ab, + 1 c, + 1 d, + 2 e, > 1 ab, > 1 c, > 2 e, > 1 d"},
		{"no bytes", 9, 1, "+ 1 a, + 1, + 1, + 1, + 1 b, + 2, + 2 c, > 1 a, > 1, > 1, > 1, > 2, > 2 c, > 1 b"},
		{"no bytes at the deficit 0 of a turn that goes on", 9, 2, "+ 1 ab, + 2 c, > 1 ab, + 1, > 2 c, > 1"},
		{"grows once only while it stays first", 9, 4, "+ 1 a, + 1 b, + 1 c, + 1 d, + 1 e, + 2 f, > 1 a, > 1 b, > 1 c, > 1 d, > 2 f, > 1 e"},
		{"what is pushed meanwhile gets none anew", 9, 2, "+ 1 a, + 1 b, + 2 c, > 1 a, + 1 d, > 1 b, + 1 e, > 2 c, > 1 d, > 1 e"},
		{"the deficit goes with it to the end", 9, 2, "+ 1 abc, + 2 a, + 2 b, + 2 c, + 2 d, > 2 a, > 2 b, > 1 abc, + 1 e, > 2 c, > 2 d, > 1 e"},
		{"what is left behind a packet goes with it", 9, 5, "+ 1 abc, + 1 abcdefg, + 2 abcdef, > 1 abc, > 1 abcdefg, > 2 abcdef"},
		{"what is left is one too little", 9, 5, "+ 1 abc, + 1 abcdefgh, + 2 abcdefghij, > 1 abc, > 2 abcdefghij, > 1 abcdefgh"},
		{"grows anew behind each round", 9, 1, "+ 1 abcde, + 2 abc, + 3 abcd, > 2 abc, > 3 abcd, > 1 abcde"},
		{"in the order in which they came, in the same turn", 9, 1, "+ 3 abc, + 1 abc, + 2 abc, > 3 abc, > 1 abc, > 2 abc"},
		{"one who comes later is asked behind all others", 9, 2, "+ 1 ab, + 1 cd, + 2 ab, + 2 cd, > 1 ab, + 3 ab, > 2 ab, > 3 ab, > 1 cd, > 2 cd"},
		{"ahead of those who went to the end since", 9, 2, "+ 1 abc, + 2 a, + 2 b, > 2 a, + 3 ab, > 2 b, > 1 abc, > 3 ab"},
		{"who leaves leaves the first place to the next", 9, 3, "+ 1 a, + 2 abc, + 2 d, + 3 e, > 1 a, > 2 abc, > 3 e, > 2 d"},
		{"alone, it comes to the first place with each turn", 9, 2, "+ 1 abcdefg, + 1 a, > 1 abcdefg, + 2 b, > 1 a, > 2 b"},
	} {
		play(t, one.name, one.limit, one.quantum, one.steps)
	}
}

// TestComesAnew is promises 20.1 to 20.3 of an id whose queue became empty, or was dropped: it comes to the end of the round anew, with the deficit 0.
func TestComesAnew(t *testing.T) {
	for _, one := range []struct {
		name           string
		limit, quantum int
		steps          string
	}{
		{"behind its last packet", 9, 2, "+ 1 a, + 2 b, > 1 a, + 1 c, > 2 b, > 1 c"},
		{"without what was left", 9, 4, "+ 1 a, + 2 b, > 1 a, + 1 abcdefg, + 3 abcd, > 2 b, > 3 abcd, > 1 abcdefg"},
		{"alone, without what was left", 9, 4, "+ 1 a, > 1 a, + 1 abcde, + 2 b, > 2 b, > 1 abcde"},
		{"alone, and is not served", 9, 4, "+ 1 a, > 1 a, + 1 abcd, + 1 e, + 2 b, > 1 abcd, > 2 b, > 1 e"},
		{"behind Drop of the first", 9, 2, "+ 1 a, + 1 b, + 2 b, - 1 2, + 1 c, > 2 b, > 1 c"},
		{"behind Drop of one that was served", 9, 4, "+ 1 a, + 1 b, + 2 b, > 1 a, - 1 1, + 1 abcdefg, + 3 abcd, > 2 b, > 3 abcd, > 1 abcdefg"},
		{"behind Drop of one that waited with a deficit", 9, 2, "+ 1 abcdefgh, + 2 a, + 2 b, + 2 c, + 2 d, + 2 e, > 2 a, > 2 b, > 2 c, - 1 1, + 1 abc, > 2 d, > 2 e, > 1 abc"},
		{"behind Drop of one in the middle", 9, 2, "+ 1 a, + 2 b, + 3 c, - 2 1, + 2 d, > 1 a, > 3 c, > 2 d"},
		{"behind Drop of the last", 9, 2, "+ 1 a, + 2 b, + 3 c, - 3 1, + 3 d, > 1 a, > 2 b, > 3 d"},
		{"alone, behind Drop", 9, 2, "+ 1 ab, + 1 c, > 1 ab, - 1 1, + 1 abc, + 2 d, > 2 d, > 1 abc"},
		{"full, behind Drop", 2, 9, "+ 1 a, + 1 b, ! 1 c, - 1 2, + 1 d, + 1 e, ! 1 f, > 1 d, > 1 e"},
		{"full, behind its last packet", 1, 9, "+ 1 a, ! 1 b, > 1 a, + 1 c, ! 1 d, > 1 c"},
	} {
		play(t, one.name, one.limit, one.quantum, one.steps)
	}
}

// TestDrop is promise 20.3 of each place that a queue may have in the round, and of what Next answers behind it.
func TestDrop(t *testing.T) {
	for _, one := range []struct {
		name           string
		limit, quantum int
		steps          string
	}{
		{"none has packets", 9, 2, "- 0 0, - 1 0, ."},
		{"of one without packets", 9, 2, "+ 1 a, + 2 b, - 3 0, - 0 0, > 1 a, > 2 b, - 1 0, - 2 0"},
		{"of one without packets any more", 9, 2, "+ 1 a, + 2 b, > 1 a, - 1 0, - 1 0, > 2 b"},
		{"twice", 9, 2, "+ 1 a, + 1 b, + 2 c, - 1 2, - 1 0, > 2 c"},
		{"of the first, not served", 9, 2, "+ 1 a, + 1 b, + 2 ab, + 2 c, + 3 d, - 1 2, > 2 ab, > 3 d, > 2 c"},
		{"of the first, served: the next one is not", 9, 2, "+ 1 a, + 1 b, + 2 ab, + 2 c, + 3 d, > 1 a, - 1 1, > 2 ab, > 3 d, > 2 c"},
		{"of the first, served with nothing left", 9, 2, "+ 1 ab, + 1 b, + 2 ab, > 1 ab, - 1 1, > 2 ab"},
		{"of one in the middle, the first is served", 9, 2, "+ 1 a, + 1 b, + 1 c, + 2 d, + 2 e, + 3 f, > 1 a, - 2 2, > 1 b, > 3 f, > 1 c"},
		{"of one in the middle, the first is not served", 9, 2, "+ 1 ab, + 1 c, + 2 d, + 3 e, - 2 1, > 1 ab, > 3 e, > 1 c"},
		{"of the last, the first is served", 9, 2, "+ 1 a, + 1 b, + 1 c, + 2 d, + 3 e, + 3 f, > 1 a, - 3 2, > 1 b, > 2 d, > 1 c"},
		{"of the last, the first is not served", 9, 2, "+ 1 ab, + 1 c, + 2 d, + 3 e, - 3 1, > 1 ab, > 2 d, > 1 c"},
		{"of all, from the first", 9, 2, "+ 1 a, + 2 b, + 2 c, + 3 d, - 1 1, - 2 2, - 3 1, ., + 3 e, > 3 e"},
		{"of all, from the last", 9, 2, "+ 1 a, + 2 b, + 2 c, + 3 d, - 3 1, - 2 2, - 1 1, ., + 2 e, > 2 e"},
		{"of all, the first is served", 9, 2, "+ 1 a, + 1 b, + 2 b, > 1 a, - 1 1, - 2 1, ., + 2 ab, + 2 c, + 1 d, > 2 ab, > 1 d, > 2 c"},
		{"of all but one, served", 9, 2, "+ 1 a, + 1 b, + 1 c, + 2 d, > 1 a, - 2 1, > 1 b, + 2 e, > 2 e, > 1 c"},
		{"of one who would be asked in vain", 9, 2, "+ 1 abcdef, + 2 abc, + 3 a, - 2 1, > 3 a, > 1 abcdef"},
		{"the others keep their deficits", 9, 2, "+ 1 abcdef, + 2 abc, + 3 a, > 3 a, - 2 1, + 3 abcde, + 2 ab, > 2 ab, > 1 abcdef, > 3 abcde"},
		{"of packets without bytes", 9, 2, "+ 1, + 1, + 1, + 2, - 1 3, > 2"},
		{"at the limit 1", 1, 1, "+ 1 a, ! 1 b, + 2 a, - 1 1, + 1 c, > 2 a, > 1 c"},
	} {
		play(t, one.name, one.limit, one.quantum, one.steps)
	}
}

// TestManyTurns is promise 20.2 of a packet that wants many turns: it comes in the turn in which it has enough, not one earlier nor later, and what it had is taken.
func TestManyTurns(t *testing.T) {
	for _, one := range []struct{ quantum, size, turn int }{{1, 65535, 65535}, {1, 65534, 65534}, {2, 65535, 32768}, {2, 65534, 32767}, {3, 65535, 21845}, {7, 65535, 9363}, {65534, 65535, 2}, {65535, 65535, 1}, {1000, 65000, 65}, {1000, 65001, 66}} {
		name := fmt.Sprintf("quantum %d, %d bytes", one.quantum, one.size)
		alone := fair.New(2, one.quantum)
		wantPush(t, name, alone, 1, bytes(one.size), api.OK)
		wantNext(t, name+" alone", alone, 1, bytes(one.size))
		wantNone(t, name+" alone", alone)
		q := fair.New(most, one.quantum)
		wantPush(t, name, q, 1, bytes(one.size), api.OK)
		left := one.turn*one.quantum - one.size
		wantPush(t, name, q, 1, bytes(left), api.OK)
		wantPush(t, name, q, 1, "b", api.OK)
		for range one.turn + 1 {
			wantPush(t, name, q, 2, bytes(one.quantum%70), api.OK)
			wantPush(t, name, q, 2, bytes(one.quantum-one.quantum%70), api.OK)
		}
		for range one.turn - 1 {
			wantNext(t, name+", the other", q, 2, bytes(one.quantum%70))
			wantNext(t, name+", the other", q, 2, bytes(one.quantum-one.quantum%70))
		}
		wantNext(t, name, q, 1, bytes(one.size))
		wantNext(t, name+", what is left", q, 1, bytes(left))
		wantNext(t, name+", the other behind it", q, 2, bytes(one.quantum%70))
		wantNext(t, name+", the other behind it", q, 2, bytes(one.quantum-one.quantum%70))
		wantNext(t, name+", in a turn more", q, 1, "b")
	}
}

// TestManyQueues is promise 20.2 of as many queues as there may be, with packets that want many turns: every call ends, and soon.
func TestManyQueues(t *testing.T) {
	const many = 30000
	q := fair.New(3, 1)
	great, small := bytes(65535), bytes(65500)
	for id := range int64(many) {
		wantPush(t, "many", q, id, great, api.OK)
	}
	wantPush(t, "the last", q, -1, small, api.OK)
	wantPush(t, "the last", q, -1, small, api.OK)
	wantNext(t, "the shortest", q, -1, small)
	for id := range int64(many) {
		wantNext(t, "in their order", q, id, great)
	}
	wantNext(t, "alone", q, -1, small)
	wantNone(t, "all gone", q)
}

// TestApart is promises 20.1 to 20.3 of two Queues with the same ids: what one is asked does not touch the other.
func TestApart(t *testing.T) {
	a, b := newBoth(t, "a", 3, 4), newBoth(t, "b", 5, 2)
	for i := range 400 {
		id := int64(i % 3)
		a.push(t, "a", id, bytes(i%9))
		b.hold(t, "b beside a's Push")
		b.push(t, "b", id, bytes(i%5))
		a.hold(t, "a beside b's Push")
		if i%4 != 0 {
			a.next(t, "a")
			b.hold(t, "b beside a's Next")
			b.next(t, "b")
			a.hold(t, "a beside b's Next")
		}
		if i%50 == 0 {
			a.drop(t, "a", id)
			b.hold(t, "b beside a's Drop")
		}
		if i%70 == 0 {
			b.drop(t, "b", id)
			a.hold(t, "a beside b's Drop")
		}
	}
	a.drain(t, "a")
	b.drain(t, "b")
}
