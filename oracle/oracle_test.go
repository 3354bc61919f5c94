package oracle

import (
	"fmt"
	"maps"
	"testing"

	"concord/api"
	"concord/clock"
	"concord/store"
	"concord/transaction"
)

// at is an oracle whose clock stands at a time.
func at(time int) *Oracle {
	var times clock.Clock
	for times.Now() < time {
		times.Take()
	}
	o := New(&times, store.New())
	o.low = 0
	return o
}

// writer is a transaction that has read and written these keys.
func writer(o *Oracle, start int, reads, writes []string) *transaction.Transaction {
	t := transaction.New(start, o.store)
	for _, key := range reads {
		t.Get(key)
	}
	for _, key := range writes {
		t.Put(key, "v")
	}
	return t
}

func want(t *testing.T, what string, got, want api.Decision) {
	t.Helper()
	if got != want {
		t.Errorf("%s: %+v, want %+v", what, got, want)
	}
}

func TestP5LowIsTheClockAtFirst(t *testing.T) {
	var times clock.Clock
	for now := range 5 {
		if o := New(&times, store.New()); o.Low() != now || o.Rows() != 0 {
			t.Errorf("at %d low is %d, %d rows", now, o.Low(), o.Rows())
		}
		times.Take()
	}
}

// TestP5StartAtLowOfANewOracle: whoever began at the clock is not too old; all
// such ones are lost with the old oracle, so this edge lies here.
func TestP5StartAtLowOfANewOracle(t *testing.T) {
	for _, c := range []struct {
		start int
		code  api.Errno
		time  int
	}{{8, api.ErrOld, 0}, {9, api.OK, 10}} {
		old := at(9)
		old.rows["a"] = 9
		o := New(old.clock, old.store)
		want(t, "one that read", o.Decide(writer(o, c.start, []string{"a"}, []string{"b"})), api.Decision{Number: c.start, Code: c.code, Time: c.time})
	}
}

func TestP5RowsAndLow(t *testing.T) {
	o := at(9)
	for i := range 10 {
		rows, low := i, 0
		if i > api.MaxRows {
			rows, low = api.MaxRows, 9+i-api.MaxRows
		}
		if o.Rows() != rows || o.Low() != low {
			t.Errorf("behind %d keys: %d rows and low %d, want %d and %d", i, o.Rows(), o.Low(), rows, low)
		}
		o.Decide(writer(o, 9, nil, []string{fmt.Sprint("k", i)}))
	}
}

// TestP4StartAtLow: no step takes one time twice, so this edge lies here.
func TestP4StartAtLow(t *testing.T) {
	for _, c := range []struct {
		start int
		code  api.Errno
		time  int
	}{{3, api.ErrOld, 0}, {4, api.ErrOld, 0}, {5, api.OK, 10}, {6, api.OK, 10}} {
		o := at(9)
		o.low = 5
		want(t, "one that read a key", o.Decide(writer(o, c.start, []string{"a"}, []string{"b"})), api.Decision{Number: c.start, Code: c.code, Time: c.time})

		o = at(9)
		o.low = 5
		scanned := writer(o, c.start, nil, []string{"b"})
		scanned.Scan("zz")
		want(t, "one that read a prefix", o.Decide(scanned), api.Decision{Number: c.start, Code: c.code, Time: c.time})

		o = at(9)
		o.low = 5
		want(t, "one that read nothing", o.Decide(writer(o, c.start, nil, []string{"b"})), api.Decision{Number: c.start, Time: 10})
		want(t, "one that wrote nothing", o.Decide(writer(o, c.start, []string{"a"}, nil)), api.Decision{Number: c.start, Time: c.start})
	}
}

// TestP4RowAtTheStart: this edge too can't be reached by steps.
func TestP4RowAtTheStart(t *testing.T) {
	for _, c := range []struct {
		row  int
		code api.Errno
		time int
	}{{4, api.OK, 10}, {5, api.OK, 10}, {6, api.ErrConflict, 0}, {7, api.ErrConflict, 0}} {
		for _, prefix := range []string{"", "a", "ab", "abc"} {
			o := at(9)
			o.rows["abc"] = c.row
			scanned := writer(o, 5, nil, []string{"z"})
			scanned.Scan(prefix)
			want(t, fmt.Sprintf("a row at %d and the prefix %q", c.row, prefix), o.Decide(scanned), api.Decision{Number: 5, Code: c.code, Time: c.time})
		}
		o := at(9)
		o.rows["abc"] = c.row
		want(t, fmt.Sprintf("a row at %d and the key", c.row), o.Decide(writer(o, 5, []string{"abc"}, []string{"z"})), api.Decision{Number: 5, Code: c.code, Time: c.time})
	}
}

// TestP4WhichRowGoes: the least time first, then the least key.
func TestP4WhichRowGoes(t *testing.T) {
	for _, c := range []struct {
		rows   map[string]int
		writes []string
		left   map[string]int
		low    int
	}{
		{map[string]int{}, []string{"a"}, map[string]int{"a": 10}, 0},
		{map[string]int{"a": 1, "b": 2, "c": 3, "d": 4, "e": 5}, []string{"f"}, map[string]int{"a": 1, "b": 2, "c": 3, "d": 4, "e": 5, "f": 10}, 0},
		{map[string]int{"a": 1, "b": 2, "c": 3, "d": 4, "e": 5, "f": 6}, []string{"a"}, map[string]int{"a": 10, "b": 2, "c": 3, "d": 4, "e": 5, "f": 6}, 0},
		{map[string]int{"a": 6, "b": 5, "c": 4, "d": 3, "e": 2, "f": 1}, []string{"g"}, map[string]int{"a": 6, "b": 5, "c": 4, "d": 3, "e": 2, "g": 10}, 1},
		{map[string]int{"a": 6, "b": 5, "c": 4, "d": 3, "e": 2, "f": 1}, []string{"g", "h", "f"}, map[string]int{"a": 6, "b": 5, "c": 4, "f": 10, "g": 10, "h": 10}, 3},
		{map[string]int{"f": 2, "e": 2, "d": 2, "\xff": 1, "b": 2, "a": 3}, []string{"g", "h"}, map[string]int{"f": 2, "e": 2, "d": 2, "a": 3, "g": 10, "h": 10}, 2},
		{map[string]int{"b": 2, "ba": 2, "B": 2, "\x80": 2, "z": 2, "b\x00": 2}, []string{"q"}, map[string]int{"b": 2, "ba": 2, "\x80": 2, "z": 2, "b\x00": 2, "q": 10}, 2},
		{map[string]int{"b": 2, "ba": 2, "B": 2, "\x80": 2, "z": 2, "b\x00": 2}, []string{"q", "A"}, map[string]int{"ba": 2, "\x80": 2, "z": 2, "b\x00": 2, "q": 10, "A": 10}, 2},
		{map[string]int{"b": 2, "ba": 2, "B": 2, "\x80": 2, "z": 2, "b\x00": 2}, []string{"q", "A", "r"}, map[string]int{"ba": 2, "\x80": 2, "z": 2, "q": 10, "A": 10, "r": 10}, 2},
		{map[string]int{"z": 9}, []string{"h", "g", "f", "e", "d", "c", "b", "a"}, map[string]int{"h": 10, "g": 10, "f": 10, "e": 10, "d": 10, "c": 10}, 10},
	} {
		// Often, for a map is gone through in another order each time.
		for range 20 {
			o := at(9)
			maps.Copy(o.rows, c.rows)
			want(t, "a writer", o.Decide(writer(o, 9, nil, c.writes)), api.Decision{Number: 9, Time: 10})
			if !maps.Equal(o.rows, c.left) || o.low != c.low {
				t.Fatalf("%v and %q leave %v and low %d, want %v and %d", c.rows, c.writes, o.rows, o.low, c.left, c.low)
			}
		}
	}
}

// full is an oracle whose store has so many versions.
func full(versions int) *Oracle {
	o := at(200)
	for i := range versions {
		o.store.Add(fmt.Sprint("k", i%7), i+1, store.Cell{})
	}
	return o
}

func TestP4Room(t *testing.T) {
	keys := []string{"a", "b", "k0"}
	for n := range len(keys) + 1 {
		ok, time := full(api.MaxVersions-n), 201
		if n == 0 {
			time = 150
		}
		want(t, "as many as there is room for", ok.Decide(writer(ok, 150, nil, keys[:n])), api.Decision{Number: 150, Time: time})
		if count := ok.store.Count(); count != api.MaxVersions {
			t.Errorf("%d versions", count)
		}
	}
	for n := range len(keys) {
		o := full(api.MaxVersions - n)
		want(t, "one too many", o.Decide(writer(o, 150, nil, keys[:n+1])), api.Decision{Number: 150, Code: api.ErrRoom})
	}
}

// TestP4WhichErrorIsTold has all of them apply, then one less each time.
func TestP4WhichErrorIsTold(t *testing.T) {
	o := full(api.MaxVersions)
	o.low, o.rows["a"] = 151, 151
	tr := writer(o, 150, []string{"a"}, []string{"b"})
	want(t, "all", o.Decide(tr), api.Decision{Number: 150, Code: api.ErrOld})
	o.low = 150
	want(t, "two", o.Decide(tr), api.Decision{Number: 150, Code: api.ErrConflict})
	o.rows["a"] = 150
	want(t, "one", o.Decide(tr), api.Decision{Number: 150, Code: api.ErrRoom})
	o.low, o.rows["a"] = 151, 151
	want(t, "nothing written", o.Decide(writer(o, 150, []string{"a"}, nil)), api.Decision{Number: 150, Time: 150})
	want(t, "nothing read", o.Decide(writer(o, 150, nil, []string{"b"})), api.Decision{Number: 150, Code: api.ErrRoom})
}

func TestP4RefusedLeavesNothing(t *testing.T) {
	for _, code := range []api.Errno{api.ErrOld, api.ErrConflict, api.ErrRoom} {
		versions := map[api.Errno]int{api.ErrRoom: api.MaxVersions}[code]
		o := full(versions)
		o.low = map[api.Errno]int{api.ErrOld: 151}[code]
		rows := map[string]int{"a": 10, "b": 10, "c": 11, "d": 12, "e": 13, "f": 14}
		if code == api.ErrConflict {
			rows["f"] = 151
		}
		maps.Copy(o.rows, rows)
		low := o.low
		want(t, "refused", o.Decide(writer(o, 150, []string{"f"}, []string{"a", "new"})), api.Decision{Number: 150, Code: code})
		if !maps.Equal(o.rows, rows) || o.low != low || o.clock.Now() != 200 || o.store.Count() != versions || len(o.store.Keys("new")) != 0 {
			t.Errorf("%d leaves rows %v, low %d, clock %d, %d versions", code, o.rows, o.low, o.clock.Now(), o.store.Count())
		}
	}
}

func TestP4NothingWrittenTakesNoTime(t *testing.T) {
	o := at(9)
	want(t, "an empty one", o.Decide(writer(o, 4, nil, nil)), api.Decision{Number: 4, Time: 4})
	want(t, "one that read", o.Decide(writer(o, 5, []string{"a"}, nil)), api.Decision{Number: 5, Time: 5})
	if o.clock.Now() != 9 || len(o.rows) != 0 || o.store.Count() != 0 {
		t.Errorf("clock %d, rows %v", o.clock.Now(), o.rows)
	}
}

func TestP4DeletedKeysHaveRowsAndVersions(t *testing.T) {
	o := at(9)
	tr := transaction.New(5, o.store)
	tr.Del("gone")
	want(t, "a DEL", o.Decide(tr), api.Decision{Number: 5, Time: 10})
	if o.rows["gone"] != 10 || o.store.Count() != 1 {
		t.Errorf("rows %v, %d versions", o.rows, o.store.Count())
	}
}

// TestFaultsAreNotDecisions: only a refusal is a decision.
func TestFaultsAreNotDecisions(t *testing.T) {
	defer func() {
		if recover() == nil {
			t.Error("a fault was told as a decision")
		}
	}()
	broken := &Oracle{}
	broken.Decide(writer(at(1), 1, nil, []string{"a"}))
}
