package concord_test

import (
	"math"
	"slices"
	"strings"
	"testing"

	"concord/api"
)

var (
	longestKey   = strings.Repeat("k", api.MaxKey)
	noKey        = strings.Repeat("k", api.MaxKey+1)
	longestValue = strings.Repeat("v", api.MaxValue)
	noValue      = strings.Repeat("v", api.MaxValue+1)
)

func TestP3FirstExample(t *testing.T) {
	check(t, begin(1), put(1, "a", "x"), found(1, "a", "x"), begin(2), missing(2, "a"))
}

func TestP3OwnWrites(t *testing.T) {
	check(t, begin(1),
		missing(1, "a"), put(1, "a", "x"), found(1, "a", "x"),
		put(1, "a", "y"), found(1, "a", "y"),
		put(1, "a", ""), found(1, "a", ""),
		del(1, "a"), missing(1, "a"), del(1, "a"), missing(1, "a"),
		put(1, "a", "z"), found(1, "a", "z"),
		missing(1, "A"), missing(1, "aa"))
}

func TestP3OthersWritesAreNotSeen(t *testing.T) {
	check(t, begin(1), begin(2), put(1, "a", "x"), put(2, "a", "y"), put(2, "b", "z"),
		found(1, "a", "x"), missing(1, "b"), found(2, "a", "y"),
		scan(1, "", "a", "x"), scan(2, "", "a", "y", "b", "z"),
		del(1, "a"), found(2, "a", "y"), drop(2), missing(1, "b"), begin(3), scan(3, ""))
}

func TestP3BeginNumbers(t *testing.T) {
	check(t, begin(1), drop(1), begin(2), begin(3), put(3, "a", "x"), found(3, "a", "x"), drop(2), begin(4), drop(4), begin(5))
}

func TestP3BeginTooMany(t *testing.T) {
	many := refused(api.Op{Kind: api.Begin}, api.ErrMany)
	var steps []step
	for i := range api.MaxOpen {
		steps = append(steps, begin(i+1))
	}
	// A refused BEGIN takes no time: the next number has no gap.
	steps = append(steps, many, many, drop(api.MaxOpen), begin(api.MaxOpen+1), many, put(1, "a", "x"), found(1, "a", "x"), drop(1), begin(api.MaxOpen+2), many)
	check(t, steps...)
}

func TestP3DropEnds(t *testing.T) {
	check(t, begin(1), put(1, "a", "x"), drop(1),
		refused(api.Op{Kind: api.Drop, T: 1}, api.ErrNone),
		refused(api.Op{Kind: api.Get, T: 1, Key: "a"}, api.ErrNone),
		begin(2), missing(2, "a"), scan(2, ""))
}

func TestP3NoSuchTransaction(t *testing.T) {
	kinds := []int{api.Get, api.Scan, api.Put, api.Del, api.Drop}
	for _, number := range []int{0, -1, 1, 3, 4, math.MaxInt, math.MinInt} {
		steps := []step{begin(1), drop(1), begin(2), put(2, "a", "x")}
		for _, kind := range kinds {
			// ErrNone goes ahead of ErrKey and ErrValue.
			for _, key := range []string{"a", "", noKey} {
				steps = append(steps, refused(api.Op{Kind: kind, T: number, Key: key, Value: noValue}, api.ErrNone))
			}
		}
		check(t, append(steps, scan(2, "", "a", "x"), begin(3))...)
	}
}

func TestP3NoKey(t *testing.T) {
	for _, key := range []string{"", noKey, strings.Repeat("k", 1<<20)} {
		check(t, begin(1),
			refused(api.Op{Kind: api.Get, T: 1, Key: key}, api.ErrKey),
			refused(api.Op{Kind: api.Put, T: 1, Key: key, Value: "x"}, api.ErrKey),
			refused(api.Op{Kind: api.Put, T: 1, Key: key, Value: noValue}, api.ErrKey),
			refused(api.Op{Kind: api.Del, T: 1, Key: key}, api.ErrKey),
			scan(1, ""))
	}
}

func TestP3LimitsOfKeysAndValues(t *testing.T) {
	check(t, begin(1), put(1, longestKey, longestValue), found(1, longestKey, longestValue),
		refused(api.Op{Kind: api.Put, T: 1, Key: longestKey, Value: noValue}, api.ErrValue),
		found(1, longestKey, longestValue),
		refused(api.Op{Kind: api.Put, T: 1, Key: "a", Value: noValue}, api.ErrValue),
		missing(1, "a"), scan(1, "", longestKey, longestValue),
		del(1, longestKey), missing(1, longestKey), put(1, "a", ""), scan(1, "", "a", ""))
	// Length is counted in bytes, and any byte may stand in a key or a value.
	check(t, begin(1), put(1, "éééé", "x"), found(1, "éééé", "x"),
		refused(api.Op{Kind: api.Put, T: 1, Key: "ééééa", Value: "x"}, api.ErrKey),
		refused(api.Op{Kind: api.Put, T: 1, Key: "a", Value: "ééééééééééa"}, api.ErrValue),
		put(1, "\xff\x00", "\x00\xff"), found(1, "\xff\x00", "\x00\xff"), missing(1, "\xff"))
}

func TestP3ScanPrefix(t *testing.T) {
	check(t, begin(1), scan(1, ""), put(1, "b", "2"), put(1, "ab", "1"), put(1, "abc", "3"), put(1, "a", "0"),
		scan(1, "", "a", "0", "ab", "1", "abc", "3", "b", "2"),
		scan(1, "a", "a", "0", "ab", "1", "abc", "3"),
		scan(1, "ab", "ab", "1", "abc", "3"), scan(1, "abc", "abc", "3"), scan(1, "abcd"),
		scan(1, "c"), scan(1, "B"), del(1, "ab"), del(1, "q"),
		scan(1, "a", "a", "0", "abc", "3"), put(1, "ab", ""), scan(1, "ab", "ab", "", "abc", "3"))
	check(t, begin(1), put(1, longestKey, "x"), scan(1, longestKey, longestKey, "x"), scan(1, noKey), scan(1, strings.Repeat("k", 1<<20)))
}

func TestP3ScanOrderIsByBytes(t *testing.T) {
	keys := []string{"\x00", "\x00\x00", "A", "Z", "a", "a\x00", "a\x00b", "aa", "a\xff", "b", "z", "\x7f", "\x80", "é", "日", "\xff", "\xff\x00", "\xff\xff"}
	steps := []step{begin(1)}
	var texts []string
	for _, key := range keys {
		texts = append(texts, key, key)
	}
	for _, key := range slices.Backward(keys) {
		steps = append(steps, put(1, key, key))
	}
	check(t, append(steps, scan(1, "", texts...), scan(1, "a\x00", "a\x00", "a\x00", "a\x00b", "a\x00b"), scan(1, "\xff", "\xff", "\xff", "\xff\x00", "\xff\x00", "\xff\xff", "\xff\xff"))...)
}

func TestP3UnnamedFieldsMayBeAnything(t *testing.T) {
	fill := func(s step) step {
		if s.op.Kind == api.Begin {
			s.op.T = math.MinInt
		}
		if s.op.Kind == api.Begin || s.op.Kind == api.Drop {
			s.op.Key = noKey
		}
		if s.op.Kind != api.Put {
			s.op.Value = noValue
		}
		s.op.N = math.MinInt
		return s
	}
	steps := []step{begin(1), put(1, "a", "x"), found(1, "a", "x"), scan(1, "", "a", "x"), del(1, "a"), missing(1, "a"), drop(1), begin(2)}
	for i, s := range steps {
		steps[i] = fill(s)
	}
	check(t, steps...)
}

func TestP3NoSuchKind(t *testing.T) {
	for _, kind := range []int{0, -1, 12, 13, 257, 1<<32 + 1, math.MaxInt, math.MinInt} {
		check(t, begin(1), put(1, "a", "x"),
			refused(api.Op{Kind: kind}, api.ErrKind),
			refused(api.Op{Kind: kind, T: 1, Key: "a", Value: "y", N: 1}, api.ErrKind),
			refused(api.Op{Kind: kind, T: 9, Key: noKey, Value: noValue, N: -1}, api.ErrKind),
			found(1, "a", "x"), begin(2))
	}
}
