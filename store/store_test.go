package store

import (
	"slices"
	"testing"
)

func TestAt(t *testing.T) {
	s := New()
	s.Add("a", 3, Filled("x"))
	s.Add("a", 5, Cell{})
	s.Add("a", 8, Filled(""))
	s.Add("b", 4, Filled("y"))
	for _, c := range []struct {
		key  string
		time int
		want Cell
	}{
		{"a", -1, Cell{}}, {"a", 0, Cell{}}, {"a", 2, Cell{}},
		{"a", 3, Filled("x")}, {"a", 4, Filled("x")},
		{"a", 5, Cell{}}, {"a", 7, Cell{}},
		{"a", 8, Filled("")}, {"a", 1 << 62, Filled("")},
		{"b", 3, Cell{}}, {"b", 4, Filled("y")},
		{"c", 9, Cell{}}, {"", 9, Cell{}},
	} {
		if cell := s.At(c.key, c.time); cell != c.want {
			t.Errorf("%q at %d: %+v, want %+v", c.key, c.time, cell, c.want)
		}
	}
}

func TestKeys(t *testing.T) {
	s := New()
	for i, key := range []string{"b", "a", "ab", "a", "\xff"} {
		s.Add(key, i+1, Cell{})
	}
	for prefix, want := range map[string][]string{
		"": {"a", "ab", "b", "\xff"}, "a": {"a", "ab"}, "ab": {"ab"}, "abc": nil, "\xff": {"\xff"}, "c": nil,
	} {
		if keys := slices.Sorted(slices.Values(s.Keys(prefix))); !slices.Equal(keys, want) {
			t.Errorf("keys with %q: %q, want %q", prefix, keys, want)
		}
	}
}

func TestCount(t *testing.T) {
	s := New()
	for i, key := range []string{"b", "a", "ab", "a", "a"} {
		if count := s.Count(); count != i {
			t.Errorf("%d versions, want %d", count, i)
		}
		s.Add(key, i+1, Cell{Found: i%2 == 0})
	}
	if count := s.Count(); count != 5 {
		t.Errorf("%d versions, want 5", count)
	}
}
