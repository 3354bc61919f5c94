package concord_test

import (
	"fmt"
	"math"
	"slices"
	"testing"

	"concord/api"
)

func TestP5Example6(t *testing.T) {
	check(t, begin(1), begin(2), begin(3), begin(4), commit(1), commit(2), commit(3),
		refused(api.Op{Kind: api.Commit, T: 4}, api.ErrBusy),
		fence(4), flush(9), sums(0, 0, 0, 0, 4, 4))
	// The same with something written, so that something is lost.
	check(t, begin(1), put(1, "a", "x"), begin(2), put(2, "b", "y"), begin(3), del(3, "a"), begin(4), put(4, "c", "z"),
		commit(1), commit(2), commit(3), refused(api.Op{Kind: api.Commit, T: 4}, api.ErrBusy),
		fence(4), flush(9), sums(0, 0, 0, 0, 4, 4), begin(5), scan(5, ""))
}

func TestP5FenceTellsHowManyWereOpen(t *testing.T) {
	check(t, fence(0), fence(0), sums(0, 0, 0, 0, 0, 0))
	for open := range api.MaxOpen + 1 {
		for queued := range min(open, api.MaxQueue) + 1 {
			var steps []step
			for number := 1; number <= open; number++ {
				steps = append(steps, begin(number))
			}
			for number := 1; number <= queued; number++ {
				steps = append(steps, commit(number))
			}
			check(t, append(steps, sums(0, open, queued, 0, 0, open), fence(open), sums(0, 0, 0, 0, open, open), fence(0))...)
		}
	}
	// Those that were at their end already do not count.
	check(t, begin(1), begin(2), begin(3), drop(2), commit(1), flush(1, done(1, 1)), fence(1), fence(0))
}

func TestP5FenceEndsAllOpenOnes(t *testing.T) {
	steps := []step{begin(1), put(1, "a", "x"), begin(2), put(2, "b", "y"), commit(2), begin(3), commit(3), fence(3)}
	for kind := api.Get; kind <= api.Commit; kind++ {
		for number := 1; number <= 3; number++ {
			steps = append(steps, refused(api.Op{Kind: kind, T: number, Key: "a", Value: "z"}, api.ErrNone))
			steps = append(steps, refused(api.Op{Kind: kind, T: number, Key: noKey, Value: noValue}, api.ErrNone))
		}
	}
	check(t, append(steps, flush(0), flush(1), flush(api.MaxFlush), sums(0, 0, 0, 0, 3, 3), begin(4), scan(4, ""))...)
}

func TestP5FenceEmptiesTheQueue(t *testing.T) {
	steps := []step{begin(1), begin(2), begin(3), commit(3), commit(1), commit(2), fence(3)}
	// There is room for as many as in a new one, and for no more.
	check(t, append(steps, begin(4), begin(5), begin(6), begin(7), put(6, "a", "x"), commit(7), commit(6), commit(5),
		refused(api.Op{Kind: api.Commit, T: 4}, api.ErrBusy), sums(0, 4, 3, 0, 3, 7),
		flush(9, done(7, 7), done(6, 8), done(5, 5)), commit(4), flush(9, done(4, 4)), sums(1, 0, 0, 1, 3, 8))...)
	check(t, append(steps, refused(api.Op{Kind: api.Flush, N: -1}, api.ErrCount), refused(api.Op{Kind: api.Flush, N: api.MaxFlush + 1}, api.ErrCount), flush(0), flush(3))...)
}

func TestP5FenceMakesRoomForMoreOpenOnes(t *testing.T) {
	many := refused(api.Op{Kind: api.Begin}, api.ErrMany)
	var steps []step
	for round := range 3 {
		for i := range api.MaxOpen {
			steps = append(steps, begin(round*api.MaxOpen+i+1))
		}
		steps = append(steps, many, commit(round*api.MaxOpen+1), many, fence(api.MaxOpen))
	}
	check(t, steps...)
}

// TestP5CommittedOutlivesAFence: versions and the clock are not the oracle's.
func TestP5CommittedOutlivesAFence(t *testing.T) {
	check(t, begin(1), put(1, "a", "x"), put(1, "b", "y"), commit(1), flush(1, done(1, 2)),
		begin(3), del(3, "b"), put(3, "c", ""), commit(3), flush(1, done(3, 4)), begin(5), put(5, "a", "lost"), commit(5),
		sums(4, 1, 1, 3, 0, 5), fence(1), sums(4, 0, 0, 0, 5, 5),
		begin(6), scan(6, "", "a", "x", "c", ""), missing(6, "b"), fence(1), fence(0),
		begin(7), found(7, "a", "x"), sums(4, 1, 0, 0, 6, 7))
	// Room is taken up still.
	check(t, around(filling(1, 10, 10), []step{fence(0)}, begin(21), put(21, "a", ""), commit(21), flush(1, refusal(21, api.ErrRoom)), sums(100, 0, 0, 0, 20, 21))...)
}

// TestP5LowIsTheClockBehindAFence: a row or a Low from ahead of it would refuse
// one that began behind it, and a Low above the clock too.
func TestP5LowIsTheClockBehindAFence(t *testing.T) {
	for count := range 10 {
		now := 2 * count
		rows, low := count, 0
		if count > api.MaxRows {
			rows, low = api.MaxRows, 2*(count-api.MaxRows)
		}
		steps := append(others(1, count), sums(count, 0, 0, rows, low, now), fence(0), sums(count, 0, 0, 0, now, now))
		// Right behind the FENCE begins one at the clock and one more: it isn't old.
		check(t, append(steps, begin(now+1), missing(now+1, "a"), put(now+1, "b", "x"), commit(now+1), flush(1, done(now+1, now+2)),
			sums(count+1, 0, 0, 1, now, now+2))...)
	}
}

// TestP5StartAtLowBehindAFence: whoever began at the clock is lost like all
// others, though no time lies between.
func TestP5StartAtLowBehindAFence(t *testing.T) {
	for kind := api.Get; kind <= api.Commit; kind++ {
		check(t, begin(1), begin(2), missing(2, "a"), put(2, "b", "x"), fence(2), sums(0, 0, 0, 0, 2, 2),
			refused(api.Op{Kind: kind, T: 2, Key: "a"}, api.ErrNone), begin(3), missing(3, "b"), put(3, "a", "y"), commit(3), flush(1, done(3, 4)))
	}
}

// TestP5TheNewOracleRemembers: behind a FENCE conflicts and rows are as ever.
func TestP5TheNewOracleRemembers(t *testing.T) {
	check(t, begin(1), put(1, "a", "x"), commit(1), flush(1, done(1, 2)), fence(0),
		begin(3), found(3, "a", "x"), put(3, "b", "y"), begin(4), put(4, "a", "z"), commit(4), commit(3),
		flush(2, done(4, 5), refusal(3, api.ErrConflict)), sums(2, 0, 0, 1, 2, 5))
	// Seven rows are one too many; those from ahead of the FENCE don't count.
	ahead := append(others(1, 5), fence(0), begin(11), missing(11, "q"), put(11, "r", "x"))
	check(t, around(ahead, others(12, 6), sums(11, 1, 0, 6, 10, 23), commit(11), flush(1, done(11, 24)), sums(12, 0, 0, 6, 13, 24))...)
	check(t, around(ahead, others(12, 7), sums(12, 1, 0, 6, 13, 25), commit(11), flush(1, refusal(11, api.ErrOld)))...)
}

func TestP5UnnamedFieldsMayBeAnything(t *testing.T) {
	for _, number := range []int{math.MinInt, -1, 0, 1, 2, 3, 101, math.MaxInt} {
		for _, key := range []string{"", "a", noKey} {
			steps := []step{begin(1), put(1, "a", "x"), commit(1), flush(1, done(1, 2)), begin(3), put(3, "a", "y"), commit(3), flush(1, done(3, 4)), begin(5),
				sums(2, 1, 0, 1, 0, 5), clean(1), sums(1, 1, 0, 1, 0, 5), fence(1), sums(1, 0, 0, 0, 5, 5)}
			for i, s := range steps {
				if slices.Contains([]int{api.Fence, api.Clean, api.Sums}, s.op.Kind) {
					steps[i].op = api.Op{Kind: s.op.Kind, T: number, Key: key, Value: noValue, N: number}
				}
			}
			check(t, steps...)
		}
	}
}

func TestP5NoSuchKind(t *testing.T) {
	for _, kind := range []int{math.MinInt, -11, -10, -9, -1, 0, 12, 13, 265, 266, 267, 1<<32 + 9, 1<<32 + 10, 1<<32 + 11, math.MaxInt} {
		t.Run(fmt.Sprint(kind), func(t *testing.T) {
			wrong := refused(api.Op{Kind: kind, T: 1, Key: "a", Value: "y", N: 1}, api.ErrKind)
			check(t, wrong, sums(0, 0, 0, 0, 0, 0), begin(1), put(1, "a", "x"), begin(2), put(2, "a", "z"), commit(1), commit(2),
				wrong, sums(0, 2, 2, 0, 0, 2), flush(1, done(1, 3)), wrong, flush(1, done(2, 4)), begin(5), wrong,
				sums(2, 1, 0, 1, 0, 5), clean(1), wrong, fence(1), wrong, sums(1, 0, 0, 0, 5, 5))
		})
	}
}
