package concord_test

import (
	"math"
	"slices"
	"strings"
	"testing"

	"concord/api"
	"concord/concord"
)

// history is the steps ahead of a step, and their answers. Nothing else is
// kept: what a step is to be answered is looked up there.
type history struct {
	ops     []api.Op
	answers []api.Answer
}

// checkHistory looks each answer up in what went ahead of it.
func checkHistory(t *testing.T, ops []api.Op) {
	t.Helper()
	answers := concord.Run(ops)
	for i, op := range ops {
		h := history{ops[:i], answers[:i]}
		if want := h.answer(op); !same(answers[i], want) {
			t.Fatalf("step %d of %+v: %+v, want %+v", i, ops, answers[i], want)
		}
	}
}

func TestP3AgainstHistory(t *testing.T) {
	for _, ops := range wilds(api.Begin, api.Drop) {
		checkHistory(t, ops)
	}
}

func TestP4AgainstHistory(t *testing.T) {
	for _, ops := range wilds(api.Begin, api.Flush) {
		checkHistory(t, ops)
	}
	for _, ops := range livelies() {
		checkHistory(t, ops)
	}
}

func TestP5AgainstHistory(t *testing.T) {
	for _, ops := range wilds(api.Begin, api.Sums) {
		checkHistory(t, ops)
	}
	for _, ops := range upkeeps() {
		checkHistory(t, ops)
	}
}

// TestLiveliesAreLively: the scripts that are drawn must come to each decision.
func TestLiveliesAreLively(t *testing.T) {
	for what, scripts := range map[string][][]api.Op{"without upkeep": livelies(), "with upkeep": upkeeps()} {
		count := map[api.Errno]int{}
		for _, ops := range scripts {
			for _, answer := range concord.Run(ops) {
				count[answer.Code]++
				for _, d := range answer.Done {
					count[d.Code]++
				}
			}
		}
		for _, code := range []api.Errno{api.OK, api.ErrNone, api.ErrQueued, api.ErrMany, api.ErrBusy, api.ErrOld, api.ErrConflict, api.ErrRoom, api.ErrCount} {
			if count[code] < 30 {
				t.Errorf("%s: %d comes up %d times only", what, code, count[code])
			}
		}
	}
}

// TestUpkeepsAreLively: FENCE and CLEAN must find something to do.
func TestUpkeepsAreLively(t *testing.T) {
	fences, waited, cleans, shielded := 0, 0, 0, 0
	for _, ops := range upkeeps() {
		answers := concord.Run(ops)
		for i, op := range ops {
			h := history{ops[:i], answers[:i]}
			switch {
			case op.Kind == api.Fence && answers[i].Number > 0:
				fences++
				waited += len(h.queued())
			case op.Kind == api.Clean && answers[i].Number > 0:
				cleans++
				shielded += len(needed(h.versions(), h.open())) - len(needed(h.versions(), nil))
			}
		}
	}
	if fences < 100 || waited < 100 || cleans < 100 || shielded < 100 {
		t.Errorf("%d fences with open ones, %d of these queued; %d cleans that took something, and left %d to open ones", fences, waited, cleans, shielded)
	}
}

func (h history) answer(op api.Op) api.Answer {
	switch op.Kind {
	case api.Begin:
		return h.begin()
	case api.Flush:
		return h.flush(op)
	case api.Fence:
		return api.Answer{Number: len(h.open())}
	case api.Clean:
		all := h.versions()
		return api.Answer{Number: len(all) - len(needed(all, h.open()))}
	case api.Sums:
		rows, low := h.rows()
		return api.Answer{Sums: []int{len(h.versions()), len(h.open()), len(h.queued()), len(rows), low, h.clock()}}
	}
	if code := h.code(op); code != api.OK {
		return api.Answer{Code: code}
	}
	switch op.Kind {
	case api.Get:
		value, ok := h.seen(op.T, op.Key)
		return api.Answer{Found: ok, Value: value}
	case api.Scan:
		return api.Answer{Items: h.listed(op.T, op.Key)}
	}
	return api.Answer{}
}

func (h history) begin() api.Answer {
	if len(h.open()) == 6 {
		return api.Answer{Code: api.ErrMany}
	}
	return api.Answer{Number: h.clock() + 1}
}

// clock is the greatest time that was told; other numbers are counts.
func (h history) clock() int {
	now := 0
	for i, op := range h.ops {
		if op.Kind == api.Begin {
			now = max(now, h.answers[i].Number)
		}
		for _, d := range h.answers[i].Done {
			now = max(now, d.Time)
		}
	}
	return now
}

// flush lays each decision behind the history, so that the next one finds it.
func (h history) flush(op api.Op) api.Answer {
	if op.N < 0 || op.N > 100 {
		return api.Answer{Code: api.ErrCount}
	}
	var all []api.Decision
	for range op.N {
		waiting := h.queued()
		if len(waiting) == 0 {
			break
		}
		d := h.decided(waiting[0])
		all = append(all, d)
		h.ops = append(slices.Clone(h.ops), api.Op{Kind: api.Flush, N: 1})
		h.answers = append(slices.Clone(h.answers), api.Answer{Done: []api.Decision{d}})
	}
	return api.Answer{Done: all}
}

// code is what a step that names a transaction is answered with.
func (h history) code(op api.Op) api.Errno {
	keyed := op.Kind == api.Get || op.Kind == api.Put || op.Kind == api.Del
	switch {
	case !slices.Contains(h.open(), op.T):
		return api.ErrNone
	case slices.Contains(h.queued(), op.T):
		return api.ErrQueued
	case keyed && (len(op.Key) == 0 || len(op.Key) > 8):
		return api.ErrKey
	case op.Kind == api.Put && len(op.Value) > 20:
		return api.ErrValue
	case op.Kind == api.Commit && len(h.queued()) == 3:
		return api.ErrBusy
	}
	return api.OK
}

// open tells the numbers of the open transactions, queued ones too.
func (h history) open() []int {
	var open []int
	for i, op := range h.ops {
		switch {
		case h.answers[i].Code != api.OK:
		case op.Kind == api.Begin:
			open = append(open, h.answers[i].Number)
		case op.Kind == api.Drop:
			open = without(open, op.T)
		case op.Kind == api.Flush:
			for _, d := range h.answers[i].Done {
				open = without(open, d.Number)
			}
		case op.Kind == api.Fence:
			open = nil
		}
	}
	return open
}

func (h history) queued() []int {
	var queued []int
	for i, op := range h.ops {
		switch {
		case h.answers[i].Code != api.OK:
		case op.Kind == api.Commit:
			queued = append(queued, op.T)
		case op.Kind == api.Flush:
			for _, d := range h.answers[i].Done {
				queued = without(queued, d.Number)
			}
		case op.Kind == api.Fence:
			queued = nil
		}
	}
	return queued
}

func without(list []int, number int) []int {
	return slices.DeleteFunc(list, func(n int) bool { return n == number })
}

// steps are those of one transaction that were answered with OK.
func (h history) steps(number int, kinds ...int) []api.Op {
	var steps []api.Op
	for i, op := range h.ops {
		if op.T == number && h.answers[i].Code == api.OK && slices.Contains(kinds, op.Kind) {
			steps = append(steps, op)
		}
	}
	return steps
}

// written tells the keys that a transaction wrote, in order.
func (h history) written(number int) []string {
	var keys []string
	for _, op := range h.steps(number, api.Put, api.Del) {
		keys = append(keys, op.Key)
	}
	slices.Sort(keys)
	return slices.Compact(keys)
}

// wrote tells what a transaction wrote last under a key, if anything.
func (h history) wrote(number int, key string) (op api.Op, ok bool) {
	for _, op := range slices.Backward(h.steps(number, api.Put, api.Del)) {
		if op.Key == key {
			return op, true
		}
	}
	return api.Op{}, false
}

// seen looks at the transaction's own writes, then from behind at those that
// were committed up to its start.
func (h history) seen(number int, key string) (string, bool) {
	op, ok := h.wrote(number, key)
	for _, d := range slices.Backward(h.commits()) {
		if !ok && d.Time <= number {
			op, ok = h.wrote(d.Number, key)
		}
	}
	if op.Kind != api.Put {
		return "", false
	}
	return op.Value, true
}

// listed asks for each key that ever was named.
func (h history) listed(number int, prefix string) []api.Item {
	var keys []string
	for _, op := range h.ops {
		if strings.HasPrefix(op.Key, prefix) {
			keys = append(keys, op.Key)
		}
	}
	slices.SortFunc(keys, func(a, b string) int { return slices.Compare([]byte(a), []byte(b)) })
	var items []api.Item
	for _, key := range slices.Compact(keys) {
		if value, ok := h.seen(number, key); ok {
			items = append(items, api.Item{Key: key, Value: value})
		}
	}
	return items
}

// commits are the decisions by which something was written.
func (h history) commits() []api.Decision {
	var all []api.Decision
	for _, answer := range h.answers {
		all = append(all, h.writers(answer.Done)...)
	}
	return all
}

func (h history) writers(all []api.Decision) []api.Decision {
	return slices.DeleteFunc(slices.Clone(all), func(d api.Decision) bool {
		return d.Code != api.OK || len(h.written(d.Number)) == 0
	})
}

// row is one of the oracle's, or a version.
type row struct {
	time int
	key  string
}

// rows does all commits again on a list that is kept in order, up from the
// last FENCE.
func (h history) rows() (rows []row, low int) {
	for i, op := range h.ops {
		if op.Kind == api.Fence {
			rows, low = nil, history{h.ops[:i], h.answers[:i]}.clock()
		}
		for _, d := range h.writers(h.answers[i].Done) {
			for _, key := range h.written(d.Number) {
				rows = slices.DeleteFunc(rows, func(r row) bool { return r.key == key })
				rows = append(rows, row{d.Time, key})
			}
			for len(rows) > 6 {
				low = rows[0].time
				rows = rows[1:]
			}
		}
	}
	return rows, low
}

// versions are all that were written, without those that a CLEAN took.
func (h history) versions() []row {
	var all []row
	for i, op := range h.ops {
		if op.Kind == api.Clean {
			all = needed(all, history{h.ops[:i], h.answers[:i]}.open())
		}
		for _, d := range h.writers(h.answers[i].Done) {
			for _, key := range h.written(d.Number) {
				all = append(all, row{d.Time, key})
			}
		}
	}
	return all
}

// needed asks for each start, and for the end of time, which versions are
// those that are seen then.
func needed(all []row, starts []int) []row {
	seen := map[row]int{}
	for _, start := range append([]int{math.MaxInt}, starts...) {
		newest := map[string]int{}
		for _, v := range all {
			if v.time <= start {
				newest[v.key] = max(newest[v.key], v.time)
			}
		}
		for key, time := range newest {
			seen[row{time, key}]++
		}
	}
	return slices.DeleteFunc(slices.Clone(all), func(v row) bool { return seen[v] == 0 })
}

func (h history) decided(number int) api.Decision {
	writes := len(h.written(number))
	rows, low := h.rows()
	reads := h.steps(number, api.Get, api.Scan)
	conflict := slices.ContainsFunc(rows, func(r row) bool {
		return r.time > number && slices.ContainsFunc(reads, func(op api.Op) bool {
			return op.Key == r.key || op.Kind == api.Scan && strings.HasPrefix(r.key, op.Key)
		})
	})
	switch {
	case writes == 0:
		return done(number, number)
	case len(reads) > 0 && number < low:
		return refusal(number, api.ErrOld)
	case conflict:
		return refusal(number, api.ErrConflict)
	case len(h.versions())+writes > 100:
		return refusal(number, api.ErrRoom)
	}
	return done(number, h.clock()+1)
}
