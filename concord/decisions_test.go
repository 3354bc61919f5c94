package concord_test

import (
	"fmt"
	"maps"
	"math"
	"slices"
	"strings"
	"testing"

	"concord/api"
	"concord/concord"
)

func TestP4Examples1And2(t *testing.T) {
	check(t, begin(1), put(1, "a", "x"), found(1, "a", "x"), begin(2), missing(2, "a"),
		commit(1), flush(5, done(1, 3)), missing(2, "a"),
		begin(4), found(4, "a", "x"), scan(4, "", "a", "x"),
		refused(api.Op{Kind: api.Put, T: 1, Key: "a", Value: "x"}, api.ErrNone),
		put(2, "b", "y"), commit(2), flush(1, refusal(2, api.ErrConflict)),
		del(4, "a"), commit(4), refused(api.Op{Kind: api.Get, T: 4, Key: "a"}, api.ErrQueued), flush(1, done(4, 5)))
}

func TestP4Example3(t *testing.T) {
	check(t, begin(1), begin(2), missing(1, "a"), missing(2, "b"), put(1, "b", "x"), put(2, "a", "y"),
		commit(1), commit(2), flush(2, done(1, 3), refusal(2, api.ErrConflict)))
	check(t, begin(1), begin(2), put(1, "b", "x"), put(2, "a", "y"),
		commit(1), commit(2), flush(2, done(1, 3), done(2, 4)))
}

func TestP4Example4(t *testing.T) {
	check(t, begin(1), scan(1, "p"), put(1, "z", ""), begin(2), put(2, "pq", ""),
		commit(2), commit(1), flush(2, done(2, 3), refusal(1, api.ErrConflict)))
}

// others are transactions that each write a key of their own.
func others(from, count int) []step {
	var steps []step
	for i := range count {
		number := from + 2*i
		steps = append(steps, begin(number), put(number, fmt.Sprint("own", number), "x"), commit(number), flush(1, done(number, number+1)))
	}
	return steps
}

// around lays steps ahead of others and behind them.
func around(ahead, others []step, behind ...step) []step {
	return slices.Concat(ahead, others, behind)
}

func TestP4Example5(t *testing.T) {
	reader := []step{begin(1), missing(1, "a"), put(1, "a", "x")}
	check(t, around(reader, others(2, 7), commit(1), flush(1, refusal(1, api.ErrOld)))...)
	check(t, around(reader, others(2, 6), commit(1), flush(1, done(1, 14)))...)
	check(t, around([]step{begin(1), put(1, "a", "x")}, others(2, 7), commit(1), flush(1, done(1, 16)))...)
	// A prefix is as good as a key, and what wrote nothing is never too old.
	check(t, around([]step{begin(1), scan(1, "q"), del(1, "a")}, others(2, 7), commit(1), flush(1, refusal(1, api.ErrOld)))...)
	check(t, around([]step{begin(1), missing(1, "a"), scan(1, "")}, others(2, 7), commit(1), flush(1, done(1, 1)))...)
}

func TestP4FullQueue(t *testing.T) {
	busy := refused(api.Op{Kind: api.Commit, T: 4}, api.ErrBusy)
	check(t, begin(1), begin(2), begin(3), begin(4), put(4, "a", "x"), commit(3), commit(1), commit(2),
		busy, busy,
		refused(api.Op{Kind: api.Commit, T: 1}, api.ErrQueued), refused(api.Op{Kind: api.Commit, T: 9}, api.ErrNone),
		// The one that found no room is open still, and not queued.
		found(4, "a", "x"), put(4, "a", "y"), scan(4, "", "a", "y"), flush(0), busy,
		flush(1, done(3, 3)), commit(4), refused(api.Op{Kind: api.Get, T: 4, Key: "a"}, api.ErrQueued),
		flush(9, done(1, 1), done(2, 2), done(4, 5)), begin(6), found(6, "a", "y"))
}

func TestP4FlushCounts(t *testing.T) {
	two := []step{begin(1), begin(2), commit(2), commit(1)}
	check(t, append(two, flush(0), flush(1, done(2, 2)), flush(1, done(1, 1)), flush(1), flush(0), flush(api.MaxFlush))...)
	check(t, append(two, flush(2, done(2, 2), done(1, 1)), flush(2))...)
	check(t, append(two, flush(3, done(2, 2), done(1, 1)))...)
	check(t, append(two, flush(api.MaxFlush, done(2, 2), done(1, 1)), flush(api.MaxFlush))...)
	check(t, flush(0), flush(1), flush(api.MaxFlush))
	for _, n := range []int{-1, -2, api.MaxFlush + 1, math.MaxInt, math.MinInt, 1 << 32, -1 << 32} {
		wrong := refused(api.Op{Kind: api.Flush, N: n}, api.ErrCount)
		check(t, wrong)
		check(t, append(two, wrong, refused(api.Op{Kind: api.Get, T: 1, Key: "a"}, api.ErrQueued), flush(2, done(2, 2), done(1, 1)), wrong)...)
	}
}

func TestP4UnnamedFieldsMayBeAnything(t *testing.T) {
	check(t, begin(1), put(1, "a", "x"),
		step{api.Op{Kind: api.Commit, T: 1, Key: noKey, Value: noValue, N: math.MinInt}, api.Answer{}},
		step{api.Op{Kind: api.Flush, T: math.MinInt, Key: noKey, Value: noValue, N: 1}, api.Answer{Done: []api.Decision{done(1, 2)}}})
}

func TestP4QueuedOnesAreLeftAlone(t *testing.T) {
	steps := []step{begin(1), put(1, "a", "x"), commit(1)}
	for kind := api.Get; kind <= api.Commit; kind++ {
		for _, key := range []string{"a", "", noKey} {
			steps = append(steps, refused(api.Op{Kind: kind, T: 1, Key: key, Value: "y"}, api.ErrQueued))
			steps = append(steps, refused(api.Op{Kind: kind, T: 1, Key: key, Value: noValue}, api.ErrQueued))
		}
	}
	// Another one goes on, and what was refused has changed nothing.
	check(t, append(steps, begin(2), missing(2, "a"), flush(1, done(1, 3)), begin(4), found(4, "a", "x"))...)
}

func TestP4RefusedReadsOfQueuedOnesDontJoin(t *testing.T) {
	check(t, begin(1), put(1, "z", "x"), commit(1),
		refused(api.Op{Kind: api.Get, T: 1, Key: "a"}, api.ErrQueued), refused(api.Op{Kind: api.Scan, T: 1}, api.ErrQueued),
		begin(2), put(2, "a", "y"), flush(0), commit(2), flush(2, done(1, 3), done(2, 4)))
	check(t, begin(1), put(1, "z", "x"), refused(api.Op{Kind: api.Get, T: 1, Key: noKey}, api.ErrKey),
		begin(2), put(2, "k", "y"), commit(2), commit(1), flush(2, done(2, 3), done(1, 4)))
}

func TestP4NoSuchTransaction(t *testing.T) {
	for _, number := range []int{0, -1, 1, 3, 4, 5, 6, math.MaxInt, math.MinInt} {
		none := refused(api.Op{Kind: api.Commit, T: number}, api.ErrNone)
		// 1 was dropped, 3 decided, 4 is a time but no start.
		check(t, begin(1), drop(1), begin(2), begin(3), put(3, "a", "x"), commit(3), flush(1, done(3, 4)),
			none, commit(2), none, flush(9, done(2, 2)), none)
	}
}

func TestP4DecidedOnesAreAtTheirEnd(t *testing.T) {
	steps := []step{begin(1), missing(1, "a"), put(1, "b", "x"), begin(2), put(2, "a", "y"), begin(3),
		commit(2), commit(1), commit(3), flush(3, done(2, 4), refusal(1, api.ErrConflict), done(3, 3))}
	for kind := api.Get; kind <= api.Commit; kind++ {
		for number := 1; number <= 4; number++ {
			steps = append(steps, refused(api.Op{Kind: kind, T: number, Key: "a"}, api.ErrNone))
		}
	}
	check(t, append(steps, flush(3), begin(5), found(5, "a", "y"), missing(5, "b"))...)
}

func TestP4QueuedOnesAreOpen(t *testing.T) {
	many := refused(api.Op{Kind: api.Begin}, api.ErrMany)
	check(t, begin(1), begin(2), begin(3), begin(4), begin(5), begin(6), many,
		commit(1), commit(2), many, put(3, "a", "x"), commit(3), many, flush(0), many,
		flush(1, done(1, 1)), begin(7), many, flush(2, done(2, 2), done(3, 8)), begin(9), begin(10), many)
}

func TestP4QueueIsInTheOrderOfCommits(t *testing.T) {
	check(t, begin(1), begin(2), begin(3), put(1, "a", "1"), put(2, "a", "2"), put(3, "a", "3"),
		commit(2), commit(3), commit(1), flush(1, done(2, 4)), begin(5), flush(2, done(3, 6), done(1, 7)),
		begin(8), found(8, "a", "1"), found(5, "a", "2"))
}

func TestP4EmptyWriteSet(t *testing.T) {
	check(t, begin(1), begin(2), put(2, "a", "x"), missing(1, "a"), scan(1, ""), commit(2), commit(1),
		flush(2, done(2, 3), done(1, 1)), begin(4))
	// A DEL is a write, of a key that nobody has too.
	check(t, begin(1), del(1, "a"), commit(1), flush(1, done(1, 2)), begin(3))
	check(t, begin(1), refused(api.Op{Kind: api.Put, T: 1, Key: noKey}, api.ErrKey), commit(1), flush(1, done(1, 1)), begin(2))
}

func TestP4DroppedOnesWriteNothing(t *testing.T) {
	check(t, begin(1), missing(1, "a"), put(1, "b", "x"), begin(2), put(2, "a", "y"), drop(2),
		commit(1), flush(1, done(1, 3)), begin(4), missing(4, "a"), scan(4, "", "b", "x"))
}

func TestP4WhatConflicts(t *testing.T) {
	conflict, fine := refusal(1, api.ErrConflict), done(1, 4)
	for _, c := range []struct {
		what  string
		reads step
		key   string
		want  api.Decision
	}{
		{"the key", missing(1, "ab"), "ab", conflict},
		{"a longer key", missing(1, "ab"), "abc", fine},
		{"a shorter key", missing(1, "ab"), "a", fine},
		{"a prefix itself", scan(1, "ab"), "ab", conflict},
		{"a key with the prefix", scan(1, "ab"), "abc", conflict},
		{"a shorter key than the prefix", scan(1, "ab"), "a", fine},
		{"a key beside the prefix", scan(1, "ab"), "ac", fine},
		{"the empty prefix", scan(1, ""), "\xff", conflict},
		{"a byte above 127", scan(1, "\xff"), "\xff\x00", conflict},
		{"a prefix that no key has", scan(1, noKey), longestKey, fine},
		{"a prefix as long as a key", scan(1, longestKey), longestKey, conflict},
		{"nothing", put(1, "ab", "x"), "ab", fine},
	} {
		t.Run(c.what, func(t *testing.T) {
			check(t, begin(1), c.reads, put(1, "z", "x"), begin(2), put(2, c.key, "y"), commit(2), flush(1, done(2, 3)), commit(1), flush(1, c.want))
			check(t, begin(1), c.reads, put(1, "z", "x"), begin(2), del(2, c.key), commit(2), commit(1), flush(2, done(2, 3), c.want))
			// What was committed ahead of the start is no conflict.
			check(t, begin(1), put(1, "q", "y"), commit(1), flush(1, done(1, 2)), begin(3), missing(3, c.key), scan(3, "", "q", "y"), put(3, "q", "x"), commit(3), flush(1, done(3, 4)))
		})
	}
}

func TestP4ReadOfOwnWriteConflicts(t *testing.T) {
	check(t, begin(1), put(1, "a", "x"), found(1, "a", "x"), begin(2), put(2, "a", "y"),
		commit(2), commit(1), flush(2, done(2, 3), refusal(1, api.ErrConflict)))
	check(t, begin(1), missing(1, "a"), put(1, "a", "x"), begin(2), missing(2, "a"), put(2, "a", "y"),
		commit(2), commit(1), flush(2, done(2, 3), refusal(1, api.ErrConflict)), begin(4), found(4, "a", "y"))
}

func TestP4RowsFollowTheLastWrite(t *testing.T) {
	// The key's row gets the later time: one from between is refused.
	check(t, begin(1), put(1, "a", "1"), commit(1), flush(1, done(1, 2)),
		begin(3), found(3, "a", "1"), put(3, "b", "x"),
		begin(4), put(4, "a", "2"), commit(4), commit(3), flush(2, done(4, 5), refusal(3, api.ErrConflict)))
	// One key again and again is one row: nothing is forgotten.
	steps := []step{begin(1), missing(1, "a"), put(1, "b", "x")}
	for i := range 20 {
		steps = append(steps, begin(2+2*i), put(2+2*i, "k", "x"), commit(2+2*i), flush(1, done(2+2*i, 3+2*i)))
	}
	check(t, append(steps, commit(1), flush(1, done(1, 42)))...)
}

// TestP4SeveralRowsAtOnce: seven rows with one time are one too many, and Low
// is their time; six are not.
func TestP4SeveralRowsAtOnce(t *testing.T) {
	for count, want := range map[int]api.Decision{
		api.MaxRows:     done(1, 4),
		api.MaxRows + 1: refusal(1, api.ErrOld),
		20:              refusal(1, api.ErrOld),
	} {
		steps := []step{begin(1), missing(1, "a"), put(1, "b", "x"), begin(2)}
		for i := range count {
			steps = append(steps, put(2, fmt.Sprint("k", i), "x"))
		}
		check(t, append(steps, commit(2), flush(1, done(2, 3)), commit(1), flush(1, want))...)
	}
}

// TestP4AboutLow has one that began right ahead of Low and one right behind.
func TestP4AboutLow(t *testing.T) {
	steps := []step{begin(1), begin(2), put(1, "own1", "x"), missing(2, "a"), put(2, "b", "x"),
		commit(1), flush(1, done(1, 3)), begin(4), missing(4, "a"), put(4, "c", "x")}
	steps = append(steps, others(5, 6)...)
	check(t, append(steps, commit(2), commit(4), flush(2, refusal(2, api.ErrOld), done(4, 17)))...)
	// With a row less nothing went, and both may.
	steps = append(slices.Clone(steps[:10]), others(5, 5)...)
	check(t, append(steps, commit(2), commit(4), flush(2, done(2, 15), done(4, 16)))...)
}

// TestP4RowsGoOneByOne: behind the seventh row Low is the first one's time,
// behind the eighth the second one's.
func TestP4RowsGoOneByOne(t *testing.T) {
	steps := append(others(1, 1), begin(3), missing(3, "a"), put(3, "b", "x"))
	check(t, around(steps, others(4, 6), commit(3), flush(1, done(3, 16)))...)
	check(t, around(steps, others(4, 7), commit(3), flush(1, refusal(3, api.ErrOld)))...)
	// The first key is written again, so another row is the oldest.
	again := []step{begin(4), put(4, "own1", "y"), commit(4), flush(1, done(4, 5))}
	check(t, around(append(steps, again...), others(6, 5), commit(3), flush(1, done(3, 16)))...)
	check(t, around(append(steps, again...), others(6, 6), commit(3), flush(1, refusal(3, api.ErrOld)))...)
}

func TestP4Room(t *testing.T) {
	// 99 versions: one more fits, two don't, and a refused one takes no room.
	steps := filling(1, 9, 11)
	check(t, append(steps, begin(19), put(19, "a", "x"), put(19, "b", "x"), commit(19), flush(1, refusal(19, api.ErrRoom)),
		begin(20), put(20, "a", "x"), commit(20), flush(1, done(20, 21)),
		begin(22), put(22, "a", "y"), commit(22), flush(1, refusal(22, api.ErrRoom)),
		begin(23), del(23, "a"), commit(23), flush(1, refusal(23, api.ErrRoom)),
		begin(24), found(24, "a", "x"), missing(24, "b"), commit(24), flush(1, done(24, 24)))...)
	// 100 at once, and 101.
	for count, want := range map[int]api.Decision{api.MaxVersions: done(1, 2), api.MaxVersions + 1: refusal(1, api.ErrRoom), 1000: refusal(1, api.ErrRoom)} {
		steps := []step{begin(1)}
		for i := range count {
			steps = append(steps, put(1, fmt.Sprint("k", i), "x"), put(1, fmt.Sprint("k", i), "y"))
		}
		steps = append(steps, commit(1), flush(1, want))
		if want.Code == api.OK {
			steps = append(steps, begin(3), found(3, "k99", "y"), put(3, "k0", ""), commit(3), flush(1, refusal(3, api.ErrRoom)))
		} else {
			steps = append(steps, begin(2), scan(2, ""), put(2, "k0", ""), commit(2), flush(1, done(2, 3)))
		}
		check(t, steps...)
	}
}

func TestP4WhichErrorIsTold(t *testing.T) {
	// Too old, in conflict, and without room.
	reads := []step{begin(1), missing(1, "k0"), missing(1, "k9"), put(1, "z", "x")}
	check(t, around(reads, filling(2, 10, 10), commit(1), flush(1, refusal(1, api.ErrOld)))...)
	// In conflict, and without room: five keys leave Low at 0.
	check(t, around(reads, filling(2, 20, 5), commit(1), flush(1, refusal(1, api.ErrConflict)))...)
	// Too old and in conflict, with room.
	check(t, around(reads, filling(2, 2, 10), commit(1), flush(1, refusal(1, api.ErrOld)))...)
	// Too old and without room.
	elsewhere := []step{begin(1), missing(1, "q"), put(1, "z", "x")}
	check(t, around(elsewhere, filling(2, 10, 10), commit(1), flush(1, refusal(1, api.ErrOld)))...)
	// Without room alone.
	check(t, around(elsewhere, filling(2, 20, 5), commit(1), flush(1, refusal(1, api.ErrRoom)))...)
	check(t, around([]step{begin(1), put(1, "z", "x")}, filling(2, 10, 10), commit(1), flush(1, refusal(1, api.ErrRoom)))...)
}

// TestP4RefusedLeavesNothing: no time, no version, no row.
func TestP4RefusedLeavesNothing(t *testing.T) {
	check(t, begin(1), begin(2), begin(3), missing(1, "a"), put(1, "b", "x"), put(2, "a", "y"), missing(3, "b"), put(3, "c", "z"),
		commit(2), commit(1), commit(3), flush(3, done(2, 4), refusal(1, api.ErrConflict), done(3, 5)),
		begin(6), scan(6, "", "a", "y", "c", "z"))
	// Rows of a refused one would push others out.
	steps := []step{begin(1), begin(2), missing(1, "a"), put(2, "a", "y"), missing(2, "q"), begin(3), missing(3, "q"), put(3, "z", "x")}
	for i := range 10 {
		steps = append(steps, put(1, fmt.Sprint("k", i), "x"))
	}
	check(t, append(steps, commit(2), commit(1), commit(3), flush(3, done(2, 4), refusal(1, api.ErrConflict), done(3, 5)))...)
}

func TestP4CommittedIsSeenFromThenOn(t *testing.T) {
	check(t, begin(1), put(1, "a", "x"), put(1, "b", "y"), commit(1), begin(2), flush(1, done(1, 3)), begin(4),
		scan(2, ""), scan(4, "", "a", "x", "b", "y"),
		del(4, "a"), put(4, "c", ""), commit(4), begin(5), flush(1, done(4, 6)), begin(7),
		missing(2, "a"), scan(5, "", "a", "x", "b", "y"), scan(7, "", "b", "y", "c", ""), missing(7, "a"),
		put(7, "a", longestValue), scan(7, "", "a", longestValue, "b", "y", "c", ""))
}

func TestP2ListsOfDecisions(t *testing.T) {
	ops := script([]step{begin(1), begin(2), begin(3), commit(1), commit(2), commit(3), flush(1), flush(2)})
	answers := concord.Run(ops)
	spoil(answers[6].Done, api.Decision{Number: -7})
	if want := flush(2, done(2, 2), done(3, 3)).want; !same(answers[7], want) {
		t.Errorf("%+v, want %+v", answers[7], want)
	}
}

// TestP6OneBehindTheOther does all that was committed again, in the order of
// the times, on a store that is empty at first.
func TestP6OneBehindTheOther(t *testing.T) {
	reads := 0
	for _, ops := range slices.Concat(livelies(), upkeeps(), wilds(-1, 13)) {
		answers := concord.Run(ops)
		now := map[string]string{}
		for _, d := range committed(answers) {
			reads += again(t, now, d.Number, ops, answers)
		}
	}
	if reads < 500 {
		t.Errorf("only %d reads were done again", reads)
	}
}

// TestP6Crossing: whatever the order of the commits, one of two that cross
// must go.
func TestP6Crossing(t *testing.T) {
	check(t, begin(1), begin(2), scan(1, "a"), scan(2, "b"), put(1, "b1", "x"), put(2, "a1", "y"),
		commit(2), commit(1), flush(2, done(2, 3), refusal(1, api.ErrConflict)))
}

func committed(answers []api.Answer) []api.Decision {
	var all []api.Decision
	for _, answer := range answers {
		for _, d := range answer.Done {
			if d.Code == api.OK {
				all = append(all, d)
			}
		}
	}
	slices.SortFunc(all, func(a, b api.Decision) int { return a.Time - b.Time })
	return all
}

// again does what a transaction did, and tells how many reads it held
// against what they told.
func again(t *testing.T, now map[string]string, number int, ops []api.Op, answers []api.Answer) int {
	t.Helper()
	reads := 0
	for i, op := range ops {
		if op.T != number || answers[i].Code != api.OK {
			continue
		}
		switch op.Kind {
		case api.Put:
			now[op.Key] = op.Value
		case api.Del:
			delete(now, op.Key)
		case api.Get, api.Scan:
			reads++
			if want := told(now, op); !same(answers[i], want) {
				t.Fatalf("step %d of %+v told %+v, done again %+v", i, ops, answers[i], want)
			}
		}
	}
	return reads
}

// told is what a read tells of a plain map.
func told(now map[string]string, op api.Op) api.Answer {
	if op.Kind == api.Get {
		value, ok := now[op.Key]
		return api.Answer{Found: ok, Value: value}
	}
	var items []api.Item
	for _, key := range slices.Sorted(maps.Keys(now)) {
		if strings.HasPrefix(key, op.Key) {
			items = append(items, api.Item{Key: key, Value: now[key]})
		}
	}
	return api.Answer{Items: items}
}
