// Package queue has the transactions that wait for their decision.
package queue

import (
	"concord/api"
	"concord/transaction"
)

// Queue hands out first what came first.
type Queue struct {
	waiting chan *transaction.Transaction
}

// New is a queue in which nobody waits.
func New() *Queue {
	return &Queue{waiting: make(chan *transaction.Transaction, api.MaxQueue)}
}

// Put lets a transaction wait behind the others, and marks it, for nobody can
// look into the channel.
func (q *Queue) Put(t *transaction.Transaction) {
	select {
	case q.waiting <- t:
		t.Queued = true
	default:
		panic(api.ErrBusy)
	}
}

// Count tells how many wait.
func (q *Queue) Count() int { return len(q.waiting) }

// Take lets the first one go, if there is any.
func (q *Queue) Take() (*transaction.Transaction, bool) {
	select {
	case t := <-q.waiting:
		return t, true
	default:
		return nil, false
	}
}
