package queue

import (
	"testing"

	"concord/api"
	"concord/store"
	"concord/transaction"
)

// refusal is what Put panics with, or nil.
func refusal(q *Queue, t *transaction.Transaction) (why any) {
	defer func() { why = recover() }()
	q.Put(t)
	return nil
}

// fill puts as many as there is room for, with these numbers on.
func fill(t *testing.T, q *Queue, from int) {
	t.Helper()
	for i := range api.MaxQueue {
		tr := transaction.New(from-i, store.New())
		if why := refusal(q, tr); why != nil || !tr.Queued {
			t.Fatalf("the one at %d: refused with %v, queued %v", i, why, tr.Queued)
		}
		if q.Count() != i+1 {
			t.Errorf("%d wait, want %d", q.Count(), i+1)
		}
	}
}

func empty(t *testing.T, q *Queue, from int) {
	t.Helper()
	for i := range api.MaxQueue {
		tr, ok := q.Take()
		if !ok || tr.Start() != from-i {
			t.Fatalf("taken at %d: %v, %v, want %d", i, tr, ok, from-i)
		}
		if q.Count() != api.MaxQueue-i-1 {
			t.Errorf("%d wait, want %d", q.Count(), api.MaxQueue-i-1)
		}
	}
	if tr, ok := q.Take(); ok || tr != nil {
		t.Errorf("taken from an empty queue: %v, %v", tr, ok)
	}
}

func TestP4FirstComeFirstGone(t *testing.T) {
	q := New()
	if _, ok := q.Take(); ok || q.Count() != 0 {
		t.Error("a new queue is not empty")
	}
	for _, from := range []int{9, 30, 6} {
		fill(t, q, from)
		late := transaction.New(1, store.New())
		if why := refusal(q, late); why != api.ErrBusy || late.Queued {
			t.Errorf("one too many: refused with %v, queued %v", why, late.Queued)
		}
		empty(t, q, from)
	}
}
