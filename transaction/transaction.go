// Package transaction has what one transaction read and wrote, and what it
// sees.
package transaction

import (
	"slices"
	"strings"

	"concord/api"
	"concord/store"
)

// Transaction reads a store as it stood at its start.
type Transaction struct {
	// Queued: it waits for its decision.
	Queued bool

	start  int
	base   *store.Store
	writes map[string]store.Cell
	// The read set: keys and prefixes lie apart, for one text may be both.
	keys     map[string]struct{}
	prefixes map[string]struct{}
}

// New is a transaction that begins at this time.
func New(start int, base *store.Store) *Transaction {
	return &Transaction{
		start:    start,
		base:     base,
		writes:   map[string]store.Cell{},
		keys:     map[string]struct{}{},
		prefixes: map[string]struct{}{},
	}
}

// Start is the time at which it began, and its number.
func (t *Transaction) Start() int { return t.start }

// Writes is the write set itself, for looking only.
func (t *Transaction) Writes() map[string]store.Cell { return t.writes }

// HasRead tells whether anything stands in the read set.
func (t *Transaction) HasRead() bool {
	return len(t.keys)+len(t.prefixes) > 0
}

// HasReadKey tells whether a key stands in the read set, itself or by one of
// its prefixes.
func (t *Transaction) HasReadKey(key string) bool {
	if _, ok := t.keys[key]; ok {
		return true
	}
	for end := range len(key) + 1 {
		if _, ok := t.prefixes[key[:end]]; ok {
			return true
		}
	}
	return false
}

// Get reads a key.
func (t *Transaction) Get(key string) store.Cell {
	t.keys[key] = struct{}{}
	return t.sees(key)
}

// Scan reads all keys that begin with a prefix.
func (t *Transaction) Scan(prefix string) []api.Item {
	t.prefixes[prefix] = struct{}{}
	var items []api.Item
	for _, key := range t.known(prefix) {
		if cell := t.sees(key); cell.Found {
			items = append(items, api.Item{Key: key, Value: cell.Value})
		}
	}
	return items
}

// Put writes a value.
func (t *Transaction) Put(key, value string) {
	t.write(key, store.Filled(strings.Clone(value)))
}

// Del writes that there is none.
func (t *Transaction) Del(key string) {
	t.write(key, store.Cell{})
}

// write clones the key, as Put does the value: both may come out in answers,
// which share no memory with the script.
func (t *Transaction) write(key string, cell store.Cell) {
	t.writes[strings.Clone(key)] = cell
}

func (t *Transaction) sees(key string) store.Cell {
	if cell, ok := t.writes[key]; ok {
		return cell
	}
	return t.base.At(key, t.start)
}

// known lists in order, each once, the keys with a prefix of which the
// transaction may see a value.
func (t *Transaction) known(prefix string) []string {
	keys := t.base.Keys(prefix)
	for key := range t.writes {
		if strings.HasPrefix(key, prefix) {
			keys = append(keys, key)
		}
	}
	slices.Sort(keys)
	return slices.Compact(keys)
}
