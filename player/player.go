// Package player plays steps, one behind the other, and answers them.
package player

import (
	"maps"
	"slices"

	"concord/api"
	"concord/clock"
	"concord/oracle"
	"concord/queue"
	"concord/store"
	"concord/transaction"
)

// Player has all that lasts from step to step.
type Player struct {
	clock  *clock.Clock
	store  *store.Store
	oracle *oracle.Oracle
	queue  *queue.Queue
	// The queued ones too.
	open map[int]*transaction.Transaction
}

// New is a player ahead of its first step.
func New() *Player {
	p := &Player{clock: &clock.Clock{}, store: store.New()}
	p.renew()
	return p
}

// renew leaves the clock and the store as they are; all else begins anew.
func (p *Player) renew() {
	p.oracle = oracle.New(p.clock, p.store)
	p.queue = queue.New()
	p.open = map[int]*transaction.Transaction{}
}

// Play answers a step. What refuses it panics with an Errno ahead of the
// first change, so a refused step leaves nothing behind.
func (p *Player) Play(op api.Op) (answer api.Answer) {
	defer func() {
		if refusal := recover(); refusal != nil {
			answer = api.Answer{Code: refusal.(api.Errno)}
		}
	}()
	return p.step(op)
}

func (p *Player) step(op api.Op) api.Answer {
	switch op.Kind {
	case api.Begin:
		return p.begin()
	case api.Get:
		return p.get(op)
	case api.Scan:
		return p.scan(op)
	case api.Put:
		return p.put(op)
	case api.Del:
		return p.del(op)
	case api.Drop:
		return p.drop(op)
	case api.Commit:
		return p.commit(op)
	case api.Flush:
		return p.flush(op)
	case api.Fence:
		return p.fence()
	case api.Clean:
		return p.clean()
	case api.Sums:
		return p.sums()
	}
	panic(api.ErrKind)
}

func (p *Player) begin() api.Answer {
	if len(p.open) >= api.MaxOpen {
		panic(api.ErrMany)
	}
	start := p.clock.Take()
	p.open[start] = transaction.New(start, p.store)
	return api.Answer{Number: start}
}

func (p *Player) get(op api.Op) api.Answer {
	t := p.named(op.T)
	mustBeKey(op.Key)
	cell := t.Get(op.Key)
	return api.Answer{Found: cell.Found, Value: cell.Value}
}

func (p *Player) scan(op api.Op) api.Answer {
	return api.Answer{Items: p.named(op.T).Scan(op.Key)}
}

func (p *Player) put(op api.Op) api.Answer {
	t := p.named(op.T)
	mustBeKey(op.Key)
	mustBeValue(op.Value)
	t.Put(op.Key, op.Value)
	return api.Answer{}
}

func (p *Player) del(op api.Op) api.Answer {
	t := p.named(op.T)
	mustBeKey(op.Key)
	t.Del(op.Key)
	return api.Answer{}
}

func (p *Player) drop(op api.Op) api.Answer {
	p.named(op.T)
	delete(p.open, op.T)
	return api.Answer{}
}

func (p *Player) commit(op api.Op) api.Answer {
	p.queue.Put(p.named(op.T))
	return api.Answer{}
}

func (p *Player) flush(op api.Op) api.Answer {
	mustBeCount(op.N)
	var done []api.Decision
	for range op.N {
		t, ok := p.queue.Take()
		if !ok {
			break
		}
		delete(p.open, t.Start())
		done = append(done, p.oracle.Decide(t))
	}
	return api.Answer{Done: done}
}

func (p *Player) fence() api.Answer {
	lost := len(p.open)
	p.renew()
	return api.Answer{Number: lost}
}

func (p *Player) clean() api.Answer {
	starts := slices.Collect(maps.Keys(p.open))
	return api.Answer{Number: p.store.Clean(starts)}
}

func (p *Player) sums() api.Answer {
	return api.Answer{Sums: []int{
		p.store.Count(),
		len(p.open),
		p.queue.Count(),
		p.oracle.Rows(),
		p.oracle.Low(),
		p.clock.Now(),
	}}
}

// named is the open transaction with this number, if it isn't queued; every
// step that names one asks here first, for no other error goes ahead of these.
func (p *Player) named(number int) *transaction.Transaction {
	t, ok := p.open[number]
	if !ok {
		panic(api.ErrNone)
	}
	if t.Queued {
		panic(api.ErrQueued)
	}
	return t
}

func mustBeKey(key string) {
	if len(key) < 1 || len(key) > api.MaxKey {
		panic(api.ErrKey)
	}
}

func mustBeValue(value string) {
	if len(value) > api.MaxValue {
		panic(api.ErrValue)
	}
}

func mustBeCount(n int) {
	if n < 0 || n > api.MaxFlush {
		panic(api.ErrCount)
	}
}
