package concord_test

import (
	"slices"
	"testing"

	"concord/api"
	"concord/concord"
)

// TestP5SumsBehindEachKind asks behind every step, a refused one of each kind
// too.
func TestP5SumsBehindEachKind(t *testing.T) {
	nothing := sums(0, 0, 0, 0, 0, 0)
	check(t, nothing, nothing,
		refused(api.Op{Kind: api.Get, T: 1, Key: "a"}, api.ErrNone), nothing,
		begin(1), sums(0, 1, 0, 0, 0, 1),
		missing(1, "a"), sums(0, 1, 0, 0, 0, 1),
		scan(1, ""), sums(0, 1, 0, 0, 0, 1),
		put(1, "a", "x"), sums(0, 1, 0, 0, 0, 1),
		refused(api.Op{Kind: api.Put, T: 1}, api.ErrKey), sums(0, 1, 0, 0, 0, 1),
		del(1, "b"), sums(0, 1, 0, 0, 0, 1),
		begin(2), sums(0, 2, 0, 0, 0, 2),
		drop(2), sums(0, 1, 0, 0, 0, 2),
		commit(1), sums(0, 1, 1, 0, 0, 2),
		refused(api.Op{Kind: api.Commit, T: 1}, api.ErrQueued), sums(0, 1, 1, 0, 0, 2),
		flush(0), sums(0, 1, 1, 0, 0, 2),
		refused(api.Op{Kind: api.Flush, N: -1}, api.ErrCount), sums(0, 1, 1, 0, 0, 2),
		flush(1, done(1, 3)), sums(2, 0, 0, 2, 0, 3),
		flush(1), sums(2, 0, 0, 2, 0, 3),
		begin(4), put(4, "a", "y"), commit(4), sums(2, 1, 1, 2, 0, 4),
		flush(1, done(4, 5)), sums(3, 0, 0, 2, 0, 5),
		begin(6), sums(3, 1, 0, 2, 0, 6),
		clean(1), sums(2, 1, 0, 2, 0, 6),
		refused(api.Op{Kind: 12}, api.ErrKind), sums(2, 1, 0, 2, 0, 6),
		fence(1), sums(2, 0, 0, 0, 6, 6),
		begin(7), sums(2, 1, 0, 0, 6, 7))
}

func TestP5SumsOfDecisions(t *testing.T) {
	// What wrote nothing, and what was refused, leaves nothing but its end.
	check(t, begin(1), missing(1, "a"), put(1, "b", "x"), begin(2), put(2, "a", "y"), begin(3), commit(2), commit(3), commit(1),
		sums(0, 3, 3, 0, 0, 3), flush(1, done(2, 4)), sums(1, 2, 2, 1, 0, 4), flush(1, done(3, 3)), sums(1, 1, 1, 1, 0, 4),
		flush(1, refusal(1, api.ErrConflict)), sums(1, 0, 0, 1, 0, 4))
	// A refused COMMIT and a refused BEGIN.
	check(t, begin(1), begin(2), begin(3), begin(4), begin(5), begin(6), refused(api.Op{Kind: api.Begin}, api.ErrMany), sums(0, 6, 0, 0, 0, 6),
		commit(1), commit(2), commit(3), refused(api.Op{Kind: api.Commit, T: 4}, api.ErrBusy), sums(0, 6, 3, 0, 0, 6))
}

// TestP5SumsOfRows: a row goes behind the seventh key, and Low is its time.
func TestP5SumsOfRows(t *testing.T) {
	check(t, slices.Concat(others(1, 6), []step{sums(6, 0, 0, 6, 0, 12)}, others(13, 1), []step{sums(7, 0, 0, 6, 2, 14)}, others(15, 1), []step{sums(8, 0, 0, 6, 4, 16)})...)
	// One key is one row, however often it is written.
	check(t, append(filling(1, 9, 1), sums(9, 0, 0, 1, 0, 18))...)
	// Eleven keys at once: six rows are left, and all have the time that is Low.
	check(t, append(filling(1, 1, 11), sums(11, 0, 0, 6, 2, 2))...)
	// A deleted key has a version and a row too.
	check(t, begin(1), del(1, "a"), commit(1), flush(1, done(1, 2)), sums(1, 0, 0, 1, 0, 2))
}

func TestP2SumsAreNewMemory(t *testing.T) {
	ops := script([]step{begin(1), sums(0, 1, 0, 0, 0, 1), sums(0, 1, 0, 0, 0, 1), begin(2), sums(0, 2, 0, 0, 0, 2)})
	answers := concord.Run(ops)
	spoil(answers[1].Sums, -7)
	spoil(answers[4].Sums, -8)
	if want := []int{0, 1, 0, 0, 0, 1}; !slices.Equal(answers[2].Sums, want) {
		t.Errorf("%v, want %v", answers[2].Sums, want)
	}
	if !slices.Equal(answers[1].Sums, slices.Repeat([]int{-7}, 6)) {
		t.Errorf("two SUMS share memory: %v", answers[1].Sums)
	}
}
