package store

import (
	"slices"
	"testing"
)

func TestAt(t *testing.T) {
	s := New()
	s.Add("a", 3, Filled("x"))
	s.Add("a", 5, Cell{})
	s.Add("a", 8, Filled(""))
	s.Add("b", 4, Filled("y"))
	for _, c := range []struct {
		key  string
		time int
		want Cell
	}{
		{"a", -1, Cell{}}, {"a", 0, Cell{}}, {"a", 2, Cell{}},
		{"a", 3, Filled("x")}, {"a", 4, Filled("x")},
		{"a", 5, Cell{}}, {"a", 7, Cell{}},
		{"a", 8, Filled("")}, {"a", 1 << 62, Filled("")},
		{"b", 3, Cell{}}, {"b", 4, Filled("y")},
		{"c", 9, Cell{}}, {"", 9, Cell{}},
	} {
		if cell := s.At(c.key, c.time); cell != c.want {
			t.Errorf("%q at %d: %+v, want %+v", c.key, c.time, cell, c.want)
		}
	}
}

func TestKeys(t *testing.T) {
	s := New()
	for i, key := range []string{"b", "a", "ab", "a", "\xff"} {
		s.Add(key, i+1, Cell{})
	}
	for prefix, want := range map[string][]string{
		"": {"a", "ab", "b", "\xff"}, "a": {"a", "ab"}, "ab": {"ab"}, "abc": nil, "\xff": {"\xff"}, "c": nil,
	} {
		if keys := slices.Sorted(slices.Values(s.Keys(prefix))); !slices.Equal(keys, want) {
			t.Errorf("keys with %q: %q, want %q", prefix, keys, want)
		}
	}
}

func TestCount(t *testing.T) {
	s := New()
	for i, key := range []string{"b", "a", "ab", "a", "a"} {
		if count := s.Count(); count != i {
			t.Errorf("%d versions, want %d", count, i)
		}
		s.Add(key, i+1, Cell{Found: i%2 == 0})
	}
	if count := s.Count(); count != 5 {
		t.Errorf("%d versions, want 5", count)
	}
}

// three is a store with versions of a at 3, 5 and 8 and one of b at 4.
func three() *Store {
	s := New()
	s.Add("a", 3, Filled("x"))
	s.Add("b", 4, Filled("y"))
	s.Add("a", 5, Cell{})
	s.Add("a", 8, Filled("z"))
	return s
}

// left tells the times of a key's versions.
func left(s *Store, key string) []int {
	var times []int
	for _, v := range s.versions[key] {
		times = append(times, v.time)
	}
	return times
}

// TestP5WhatIsNeeded has a version at a start too: no step comes to that, for
// each time is taken once.
func TestP5WhatIsNeeded(t *testing.T) {
	for _, c := range []struct {
		starts []int
		want   []int
	}{
		{nil, []int{8}},
		{[]int{0}, []int{8}}, {[]int{2}, []int{8}},
		{[]int{3}, []int{3, 8}}, {[]int{4}, []int{3, 8}},
		{[]int{5}, []int{5, 8}}, {[]int{6}, []int{5, 8}}, {[]int{7}, []int{5, 8}},
		{[]int{8}, []int{8}}, {[]int{9}, []int{8}}, {[]int{1 << 62}, []int{8}}, {[]int{-1}, []int{8}},
		{[]int{6, 4}, []int{3, 5, 8}}, {[]int{4, 6}, []int{3, 5, 8}}, {[]int{7, 5, 6}, []int{5, 8}}, {[]int{4, 3}, []int{3, 8}},
		{[]int{9, 1}, []int{8}}, {[]int{9, 3, 1}, []int{3, 8}},
	} {
		s := three()
		gone := s.Clean(c.starts)
		if !slices.Equal(left(s, "a"), c.want) || !slices.Equal(left(s, "b"), []int{4}) || gone != 3-len(c.want) {
			t.Errorf("starts %v: %d gone, left %v and %v, want %v", c.starts, gone, left(s, "a"), left(s, "b"), c.want)
		}
		if again := s.Clean(c.starts); again != 0 || s.Count() != len(c.want)+1 {
			t.Errorf("starts %v: %d more gone, %d left", c.starts, again, s.Count())
		}
	}
}

func TestP5CleanOfNothing(t *testing.T) {
	s := New()
	if gone := s.Clean([]int{1, 2}); gone != 0 || s.Count() != 0 || len(s.Keys("")) != 0 {
		t.Errorf("%d gone of an empty store, %d left", gone, s.Count())
	}
}

func TestP5LastVersionWithoutValueStays(t *testing.T) {
	s := New()
	s.Add("a", 1, Filled("x"))
	s.Add("a", 2, Cell{})
	s.Add("b", 3, Cell{})
	if gone := s.Clean(nil); gone != 1 || !slices.Equal(left(s, "a"), []int{2}) || !slices.Equal(left(s, "b"), []int{3}) {
		t.Errorf("%d gone, left %v and %v", gone, left(s, "a"), left(s, "b"))
	}
	if cell := s.At("a", 9); cell != (Cell{}) {
		t.Errorf("what was deleted is back: %+v", cell)
	}
}

// TestP6CleanKeepsWhatIsSeen tries all sets of starts, and asks at each start
// and at times of those who are yet to begin.
func TestP6CleanKeepsWhatIsSeen(t *testing.T) {
	for set := range 1 << 10 {
		var starts []int
		for start := range 10 {
			if set>>start&1 == 1 {
				starts = append(starts, start)
			}
		}
		before, s := three(), three()
		s.Clean(starts)
		s.Add("a", 11, Filled("new"))
		before.Add("a", 11, Filled("new"))
		for _, time := range append(starts, 8, 9, 10, 11, 12) {
			for _, key := range []string{"a", "b", "c"} {
				if got, want := s.At(key, time), before.At(key, time); got != want {
					t.Fatalf("starts %v: %q at %d is %+v, was %+v", starts, key, time, got, want)
				}
			}
		}
	}
}

func TestP5CleanLooksOnly(t *testing.T) {
	starts := []int{6, 2, 9, 4}
	three().Clean(starts)
	if !slices.Equal(starts, []int{6, 2, 9, 4}) {
		t.Errorf("the starts became %v", starts)
	}
}
