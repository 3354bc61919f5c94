// Package oracle decides which transactions may commit.
package oracle

import (
	"cmp"
	"maps"
	"slices"

	"concord/api"
	"concord/clock"
	"concord/store"
	"concord/transaction"
)

// Oracle remembers when some keys were written last.
type Oracle struct {
	clock *clock.Clock
	store *store.Store
	rows  map[string]int
	// No row went whose time is above low: of what began at low or later, all
	// is known that was written since.
	low int
}

// New is an oracle that knows of nothing written up to now.
func New(times *clock.Clock, base *store.Store) *Oracle {
	return &Oracle{clock: times, store: base, rows: map[string]int{}, low: times.Now()}
}

// Rows tells how many keys the oracle remembers.
func (o *Oracle) Rows() int { return len(o.rows) }

// Low is the time below which a start is too old for one that has read.
func (o *Oracle) Low() int { return o.low }

// Decide decides about a transaction. What refuses it panics with an Errno
// ahead of the first change, so a refused one leaves nothing behind.
func (o *Oracle) Decide(t *transaction.Transaction) (decision api.Decision) {
	defer func() {
		if refusal := recover(); refusal != nil {
			decision = api.Decision{Number: t.Start(), Code: refusal.(api.Errno)}
		}
	}()
	return api.Decision{Number: t.Start(), Time: o.commit(t)}
}

// commit tells the transaction's time.
func (o *Oracle) commit(t *transaction.Transaction) int {
	writes := t.Writes()
	if len(writes) == 0 {
		return t.Start()
	}
	o.mustRemember(t)
	o.mustNotConflict(t)
	o.mustHaveRoom(len(writes))
	time := o.clock.Take()
	for key, cell := range writes {
		o.store.Add(key, time, cell)
		o.rows[key] = time
	}
	o.forget()
	return time
}

func (o *Oracle) mustRemember(t *transaction.Transaction) {
	if t.Start() < o.low && t.HasRead() {
		panic(api.ErrOld)
	}
}

func (o *Oracle) mustNotConflict(t *transaction.Transaction) {
	for key, time := range o.rows {
		if time > t.Start() && t.HasReadKey(key) {
			panic(api.ErrConflict)
		}
	}
}

func (o *Oracle) mustHaveRoom(versions int) {
	if o.store.Count()+versions > api.MaxVersions {
		panic(api.ErrRoom)
	}
}

func (o *Oracle) forget() {
	for len(o.rows) > api.MaxRows {
		key := o.oldest()
		o.low = o.rows[key]
		delete(o.rows, key)
	}
}

// oldest is the key of the row that goes first. No two keys are equal here,
// so it hangs on no order of the map.
func (o *Oracle) oldest() string {
	return slices.MinFunc(slices.Collect(maps.Keys(o.rows)), func(a, b string) int {
		return cmp.Or(cmp.Compare(o.rows[a], o.rows[b]), cmp.Compare(a, b))
	})
}
