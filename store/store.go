// Package store keeps the versions of keys.
package store

import (
	"slices"
	"strings"
)

// Cell is a value, or none.
type Cell struct {
	Found bool
	Value string
}

// Filled is the cell with this value.
func Filled(value string) Cell { return Cell{Found: true, Value: value} }

type version struct {
	time int
	cell Cell
}

// Store has each key's versions, in the order of their times.
type Store struct {
	versions map[string][]version
}

// New is a store without versions.
func New() *Store {
	return &Store{versions: map[string][]version{}}
}

// Add gives a key a version. Its time must be above those that the key has
// already: At leans on that order.
func (s *Store) Add(key string, time int, cell Cell) {
	s.versions[key] = append(s.versions[key], version{time: time, cell: cell})
}

// At tells what a key has at a time.
func (s *Store) At(key string, time int) Cell {
	list := s.versions[key]
	for i := len(list) - 1; i >= 0; i-- {
		if list[i].time <= time {
			return list[i].cell
		}
	}
	return Cell{}
}

// Keys tells the keys with versions that begin with a prefix, in no order.
func (s *Store) Keys(prefix string) []string {
	var keys []string
	for key := range s.versions {
		if strings.HasPrefix(key, prefix) {
			keys = append(keys, key)
		}
	}
	return keys
}

// Clean takes away the versions that are seen neither at one of these times nor
// by anyone who is yet to begin, and tells how many those were.
func (s *Store) Clean(times []int) int {
	gone := 0
	for _, key := range s.Keys("") {
		list := s.versions[key]
		kept := needed(list, times)
		gone += len(list) - len(kept)
		s.versions[key] = kept
	}
	return gone
}

// needed lists a key's versions that are still read. The last one always is,
// for all who are yet to begin; a deletion too, since it hides those ahead.
func needed(list []version, times []int) []version {
	var kept []version
	for i, v := range list {
		isRead := func(time int) bool { return v.time <= time && time < list[i+1].time }
		if i == len(list)-1 || slices.ContainsFunc(times, isRead) {
			kept = append(kept, v)
		}
	}
	return kept
}

// Count tells how many versions there are, of all keys.
func (s *Store) Count() int {
	count := 0
	for _, list := range s.versions {
		count += len(list)
	}
	return count
}
