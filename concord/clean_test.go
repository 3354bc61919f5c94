package concord_test

import (
	"fmt"
	"slices"
	"testing"

	"concord/api"
	"concord/concord"
)

// writing is a transaction, with this number, that writes a key and is
// committed at once.
func writing(number int, key, value string) []step {
	return []step{begin(number), put(number, key, value), commit(number), flush(1, done(number, number+1))}
}

func deleting(number int, key string) []step {
	return []step{begin(number), del(number, key), commit(number), flush(1, done(number, number+1))}
}

func TestP5CleanOfNothing(t *testing.T) {
	check(t, clean(0), clean(0), sums(0, 0, 0, 0, 0, 0), begin(1), clean(0), put(1, "a", "x"), clean(0), commit(1), clean(0),
		flush(1, done(1, 2)), clean(0), clean(0), sums(1, 0, 0, 1, 0, 2))
}

func TestP5CleanKeepsTheLastOfEachKey(t *testing.T) {
	check(t, append(filling(1, 5, 4), sums(20, 0, 0, 4, 0, 10), clean(16), clean(0), sums(4, 0, 0, 4, 0, 10),
		begin(11), scan(11, "", "k0", "9", "k1", "9", "k2", "9", "k3", "9"))...)
}

// TestP5CleanAboutAnOpenStart has one open transaction between four versions:
// two below its start, two above.
func TestP5CleanAboutAnOpenStart(t *testing.T) {
	steps := slices.Concat(writing(1, "a", "1"), writing(3, "a", "2"), []step{begin(5)}, writing(6, "a", "3"), writing(8, "a", "4"))
	check(t, around(steps, []step{sums(4, 1, 0, 1, 0, 9), clean(2), clean(0), sums(2, 1, 0, 1, 0, 9)},
		found(5, "a", "2"), begin(10), found(10, "a", "4"), clean(0), drop(5), clean(1), clean(0), found(10, "a", "4"))...)
	// Queued it is open still; decided it is not.
	check(t, around(steps, []step{found(5, "a", "2"), commit(5), clean(2), clean(0), sums(2, 1, 1, 1, 0, 9)},
		flush(0), clean(0), flush(1, done(5, 5)), clean(1), clean(0), sums(1, 0, 0, 1, 0, 9))...)
	// A FENCE ends it.
	check(t, around(steps, []step{clean(2), fence(1), clean(1)}, begin(10), found(10, "a", "4"))...)
}

// TestP5CleanRightAboutAStart: the version's time is the one ahead of the
// start, and the one behind.
func TestP5CleanRightAboutAStart(t *testing.T) {
	check(t, slices.Concat(writing(1, "a", "1"), []step{begin(3), begin(4), put(4, "a", "2"), commit(4), flush(1, done(4, 5)),
		clean(0), found(3, "a", "1"), drop(3), clean(1), clean(0), begin(6), found(6, "a", "2")})...)
	check(t, begin(1), put(1, "a", "1"), begin(2), commit(1), flush(1, done(1, 3)),
		begin(4), put(4, "a", "2"), commit(4), flush(1, done(4, 5)), clean(1), clean(0), missing(2, "a"))
}

func TestP5CleanForSeveralOpenOnes(t *testing.T) {
	var steps []step
	for i := range 5 {
		steps = append(steps, writing(1+3*i, "a", fmt.Sprint(i))...)
		steps = append(steps, begin(3+3*i))
	}
	// Each of 3, 6, 9, 12, 15 sees another version: all are needed.
	steps = append(steps, clean(0), found(3, "a", "0"), found(6, "a", "1"), found(9, "a", "2"), found(12, "a", "3"), found(15, "a", "4"))
	check(t, append(steps, drop(6), clean(1), drop(15), clean(0), commit(9), clean(0), drop(3), drop(12), clean(2),
		flush(1, done(9, 9)), clean(1), clean(0), sums(1, 0, 0, 1, 0, 15))...)
	// Two that see the same need one version.
	check(t, slices.Concat(writing(1, "a", "1"), writing(3, "a", "2"), []step{begin(5), begin(6)}, writing(7, "a", "3"),
		[]step{clean(1), drop(5), clean(0), found(6, "a", "2"), drop(6), clean(1)})...)
}

func TestP5CleanForWhoCameAheadOfAll(t *testing.T) {
	check(t, slices.Concat([]step{begin(1)}, writing(2, "a", "1"), writing(4, "a", "2"), writing(6, "b", "3"),
		[]step{clean(1), clean(0), sums(2, 1, 0, 2, 0, 7), missing(1, "a"), scan(1, ""), begin(8), scan(8, "", "a", "2", "b", "3")})...)
}

func TestP5CleanOfWhatIsDeleted(t *testing.T) {
	// The last version has no value: it stays, and the key is not back.
	check(t, slices.Concat(writing(1, "a", "x"), deleting(3, "a"), []step{sums(2, 0, 0, 1, 0, 4), clean(1), clean(0), sums(1, 0, 0, 1, 0, 4),
		begin(5), missing(5, "a"), scan(5, "")})...)
	// One in the midst that an open transaction needs.
	check(t, slices.Concat(writing(1, "a", "x"), deleting(3, "a"), []step{begin(5)}, writing(6, "a", "y"), []step{clean(1), clean(0),
		missing(5, "a"), scan(5, ""), begin(8), found(8, "a", "y"), drop(5), clean(1), sums(1, 1, 0, 1, 0, 8)})...)
	// A key that never had a value.
	check(t, slices.Concat(deleting(1, "a"), deleting(3, "a"), []step{clean(1), clean(0), sums(1, 0, 0, 1, 0, 4)})...)
}

func TestP5CleanLooksAtEachKeyAlone(t *testing.T) {
	check(t, slices.Concat(writing(1, "a", "1"), writing(3, "b", "1"), []step{begin(5)}, writing(6, "a", "2"), writing(8, "ab", "1"), writing(10, "ab", "2"),
		[]step{sums(5, 1, 0, 3, 0, 11), clean(1), clean(0), scan(5, "", "a", "1", "b", "1"),
			begin(12), scan(12, "", "a", "2", "ab", "2", "b", "1")})...)
}

// TestP5CleanLeavesTheOracleAlone: rows and Low stay, and so do conflicts and
// what is too old.
func TestP5CleanLeavesTheOracleAlone(t *testing.T) {
	check(t, slices.Concat([]step{begin(1), missing(1, "a"), put(1, "z", "x")}, writing(2, "a", "1"), writing(4, "a", "2"),
		[]step{clean(1), sums(1, 1, 0, 1, 0, 5), commit(1), clean(0), flush(1, refusal(1, api.ErrConflict))})...)
	check(t, around([]step{begin(1), missing(1, "q"), put(1, "z", "x")}, others(2, 7), clean(0), sums(7, 1, 0, 6, 3, 15),
		commit(1), flush(1, refusal(1, api.ErrOld)))...)
}

func TestP5CleanMakesRoom(t *testing.T) {
	full := filling(1, 10, 10)
	again := []step{begin(21), put(21, "a", "x"), commit(21), flush(1, refusal(21, api.ErrRoom)), sums(100, 0, 0, 6, 20, 21)}
	check(t, slices.Concat(full, again, []step{clean(90), clean(0), sums(10, 0, 0, 6, 20, 21), begin(22), put(22, "a", "x"), commit(22), flush(1, done(22, 23)),
		sums(11, 0, 0, 6, 20, 23), begin(24), scan(24, "k9", "k9", "19"), found(24, "a", "x")})...)
	// As many as went there is room for, and no more.
	for count, want := range map[int]api.Decision{90: done(21, 22), 91: refusal(21, api.ErrRoom)} {
		steps := append(slices.Clone(full), clean(90), begin(21))
		for i := range count {
			steps = append(steps, put(21, fmt.Sprint("n", i), "x"))
		}
		check(t, append(steps, commit(21), flush(1, want))...)
	}
	// Where all is needed there is no room to be made.
	check(t, slices.Concat(filling(1, 1, 100), []step{clean(0), begin(3), put(3, "k0", "x"), commit(3), clean(0), flush(1, refusal(3, api.ErrRoom)), clean(0), sums(100, 0, 0, 6, 2, 3)})...)
	// One CLEAN between COMMIT and FLUSH is early enough.
	check(t, append(slices.Clone(full), begin(21), put(21, "a", "x"), commit(21), clean(90), flush(1, done(21, 22)))...)
}

func TestP6CleanBehindEachStep(t *testing.T) {
	compared := 0
	for _, ops := range slices.Concat(livelies(), upkeeps(), wilds(-1, 13)) {
		var cleaned []api.Op
		for _, op := range ops {
			cleaned = append(cleaned, op, api.Op{Kind: api.Clean})
		}
		answers := concord.Run(cleaned)
		var left []api.Answer
		for i := 0; i < len(answers); i += 2 {
			left = append(left, answers[i])
		}
		compared += differOnlyByClean(t, ops, concord.Run(ops), left)
	}
	if compared < 50000 {
		t.Errorf("only %d answers were held against each other", compared)
	}
}

func TestP6OneCleanAnywhere(t *testing.T) {
	scripts := slices.Concat(wilds(api.Begin, api.Sums)[:100], upkeeps()[:12])
	for _, ops := range scripts {
		plain := concord.Run(ops)
		apart := 1 + len(ops)/70
		for at := 0; at <= len(ops); at += apart {
			answers := concord.Run(slices.Insert(slices.Clone(ops), at, api.Op{Kind: api.Clean}))
			differOnlyByClean(t, ops, plain, slices.Delete(answers, at, at+1))
		}
	}
}

// differOnlyByClean holds the answers of a script against those that it has
// with more CLEANs, and tells how many it could: behind the first ErrRoom that
// did not come up another transaction was committed, so all may be otherwise.
func differOnlyByClean(t *testing.T, ops []api.Op, plain, cleaned []api.Answer) int {
	t.Helper()
	for i, op := range ops {
		a, b := plain[i], cleaned[i]
		switch {
		case op.Kind == api.Clean && b.Number <= a.Number:
			a.Number, b.Number = 0, 0
		case op.Kind == api.Sums && b.Sums[0] <= a.Sums[0]:
			a.Sums, b.Sums = a.Sums[1:], b.Sums[1:]
		case roomMade(a.Done, b.Done):
			return i
		}
		if !same(a, b) {
			t.Fatalf("step %d of %+v: %+v, with more CLEANs %+v", i, ops, plain[i], cleaned[i])
		}
	}
	return len(ops)
}

// roomMade tells whether the first that two lists differ in is an ErrRoom that
// became an OK.
func roomMade(plain, cleaned []api.Decision) bool {
	for i := range min(len(plain), len(cleaned)) {
		if plain[i] != cleaned[i] {
			return plain[i].Code == api.ErrRoom && cleaned[i].Code == api.OK && plain[i].Number == cleaned[i].Number
		}
	}
	return false
}
