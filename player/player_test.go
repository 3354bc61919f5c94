package player

import (
	"strings"
	"testing"

	"concord/api"
	"concord/store"
)

// TestP3ReadsTheStore has versions that came between two beginnings.
func TestP3ReadsTheStore(t *testing.T) {
	p := New()
	first := p.Play(api.Op{Kind: api.Begin}).Number
	p.store.Add("a", p.clock.Take(), store.Filled("x"))
	second := p.Play(api.Op{Kind: api.Begin}).Number
	p.store.Add("a", p.clock.Take(), store.Cell{})
	if first != 1 || second != 3 {
		t.Fatalf("starts %d and %d, want 1 and 3", first, second)
	}
	if a := p.Play(api.Op{Kind: api.Get, T: first, Key: "a"}); a.Code != api.OK || a.Found {
		t.Errorf("the first sees %+v", a)
	}
	if a := p.Play(api.Op{Kind: api.Get, T: second, Key: "a"}); !a.Found || a.Value != "x" {
		t.Errorf("the second sees %+v", a)
	}
	if a := p.Play(api.Op{Kind: api.Scan, T: second}); len(a.Items) != 1 || a.Items[0] != (api.Item{Key: "a", Value: "x"}) {
		t.Errorf("the second sees %+v", a)
	}
}

// TestRefusedStepsChangeNothing looks at what no answer of these steps tells.
func TestRefusedStepsChangeNothing(t *testing.T) {
	p := New()
	for range api.MaxOpen {
		p.Play(api.Op{Kind: api.Begin})
	}
	long := strings.Repeat("k", 1000)
	for _, op := range []api.Op{
		{Kind: api.Begin}, {Kind: 0}, {Kind: 12, T: 1, Key: "a"},
		{Kind: api.Get, T: 1}, {Kind: api.Get, T: 1, Key: long}, {Kind: api.Get, T: 9, Key: "a"},
		{Kind: api.Scan, T: 9}, {Kind: api.Drop, T: 9}, {Kind: api.Drop, T: -1},
		{Kind: api.Put, T: 1}, {Kind: api.Put, T: 1, Key: "a", Value: long}, {Kind: api.Put, T: 0, Key: "a"},
		{Kind: api.Del, T: 1, Key: long}, {Kind: api.Del, T: 9, Key: "a"},
	} {
		if a := p.Play(op); a.Code == api.OK {
			t.Errorf("%+v was not refused", op)
		}
	}
	if p.clock.Now() != api.MaxOpen || len(p.open) != api.MaxOpen {
		t.Errorf("the clock is %d, %d are open", p.clock.Now(), len(p.open))
	}
	if a := p.Play(api.Op{Kind: api.Scan, T: 1}); len(a.Items) != 0 {
		t.Errorf("something was written: %+v", a)
	}
}

// TestFaultsAreNotAnswered: only a refusal is an answer; a fault of the
// program must not pass for one.
func TestFaultsAreNotAnswered(t *testing.T) {
	defer func() {
		if recover() == nil {
			t.Error("a fault was answered")
		}
	}()
	broken := &Player{}
	broken.Play(api.Op{Kind: api.Begin})
}
