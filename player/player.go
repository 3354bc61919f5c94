// Package player plays steps, one behind the other, and answers them.
package player

import (
	"concord/api"
	"concord/store"
	"concord/transaction"
)

// Player has all that lasts from step to step.
type Player struct {
	clock int
	store *store.Store
	open  map[int]*transaction.Transaction
}

// New is a player ahead of its first step.
func New() *Player {
	return &Player{
		store: store.New(),
		open:  map[int]*transaction.Transaction{},
	}
}

// Play answers a step. What refuses it panics with an Errno ahead of the
// first change, so a refused step leaves nothing behind.
func (p *Player) Play(op api.Op) (answer api.Answer) {
	defer func() {
		if refusal := recover(); refusal != nil {
			answer = api.Answer{Code: refusal.(api.Errno)}
		}
	}()
	return p.step(op)
}

func (p *Player) step(op api.Op) api.Answer {
	switch op.Kind {
	case api.Begin:
		return p.begin()
	case api.Get:
		return p.get(op)
	case api.Scan:
		return p.scan(op)
	case api.Put:
		return p.put(op)
	case api.Del:
		return p.del(op)
	case api.Drop:
		return p.drop(op)
	}
	panic(api.ErrKind)
}

func (p *Player) begin() api.Answer {
	if len(p.open) >= api.MaxOpen {
		panic(api.ErrMany)
	}
	start := p.takeTime()
	p.open[start] = transaction.New(start, p.store)
	return api.Answer{Number: start}
}

func (p *Player) get(op api.Op) api.Answer {
	t := p.named(op.T)
	mustBeKey(op.Key)
	cell := t.Get(op.Key)
	return api.Answer{Found: cell.Found, Value: cell.Value}
}

func (p *Player) scan(op api.Op) api.Answer {
	return api.Answer{Items: p.named(op.T).Scan(op.Key)}
}

func (p *Player) put(op api.Op) api.Answer {
	t := p.named(op.T)
	mustBeKey(op.Key)
	mustBeValue(op.Value)
	t.Put(op.Key, op.Value)
	return api.Answer{}
}

func (p *Player) del(op api.Op) api.Answer {
	t := p.named(op.T)
	mustBeKey(op.Key)
	t.Del(op.Key)
	return api.Answer{}
}

func (p *Player) drop(op api.Op) api.Answer {
	p.named(op.T)
	delete(p.open, op.T)
	return api.Answer{}
}

func (p *Player) takeTime() int {
	p.clock++
	return p.clock
}

// named is the open transaction with this number; every step that names one
// asks here first, for no other error goes ahead of this one.
func (p *Player) named(number int) *transaction.Transaction {
	t, ok := p.open[number]
	if !ok {
		panic(api.ErrNone)
	}
	return t
}

func mustBeKey(key string) {
	if len(key) < 1 || len(key) > api.MaxKey {
		panic(api.ErrKey)
	}
}

func mustBeValue(value string) {
	if len(value) > api.MaxValue {
		panic(api.ErrValue)
	}
}
