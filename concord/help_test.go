package concord_test

import (
	"fmt"
	"math"
	"math/rand"
	"slices"
	"strings"
	"sync"
	"testing"

	"concord/api"
	"concord/concord"
)

// step is a step and the answer that is asked for.
type step struct {
	op   api.Op
	want api.Answer
}

func begin(number int) step {
	return step{api.Op{Kind: api.Begin}, api.Answer{Number: number}}
}

func put(t int, key, value string) step {
	return step{api.Op{Kind: api.Put, T: t, Key: key, Value: value}, api.Answer{}}
}

func del(t int, key string) step {
	return step{api.Op{Kind: api.Del, T: t, Key: key}, api.Answer{}}
}

func drop(t int) step {
	return step{api.Op{Kind: api.Drop, T: t}, api.Answer{}}
}

func found(t int, key, value string) step {
	return step{api.Op{Kind: api.Get, T: t, Key: key}, api.Answer{Found: true, Value: value}}
}

func missing(t int, key string) step {
	return step{api.Op{Kind: api.Get, T: t, Key: key}, api.Answer{}}
}

// scan takes the items as key and value by turns.
func scan(t int, prefix string, texts ...string) step {
	var items []api.Item
	for pair := range slices.Chunk(texts, 2) {
		items = append(items, api.Item{Key: pair[0], Value: pair[1]})
	}
	return step{api.Op{Kind: api.Scan, T: t, Key: prefix}, api.Answer{Items: items}}
}

func commit(t int) step {
	return step{api.Op{Kind: api.Commit, T: t}, api.Answer{}}
}

func flush(n int, done ...api.Decision) step {
	return step{api.Op{Kind: api.Flush, N: n}, api.Answer{Done: done}}
}

// done is an OK, and refusal an error, told of a transaction.
func done(number, time int) api.Decision {
	return api.Decision{Number: number, Time: time}
}

func refusal(number int, code api.Errno) api.Decision {
	return api.Decision{Number: number, Code: code}
}

// fence tells how many were open, and clean how many versions are gone.
func fence(open int) step {
	return step{api.Op{Kind: api.Fence}, api.Answer{Number: open}}
}

func clean(gone int) step {
	return step{api.Op{Kind: api.Clean}, api.Answer{Number: gone}}
}

func sums(versions, open, queued, rows, low, clock int) step {
	return step{api.Op{Kind: api.Sums}, api.Answer{Sums: []int{versions, open, queued, rows, low, clock}}}
}

// refused is a step that is answered with an error and nothing else.
func refused(op api.Op, code api.Errno) step {
	return step{op, api.Answer{Code: code}}
}

func same(a, b api.Answer) bool {
	return a.Code == b.Code && a.Number == b.Number && a.Found == b.Found && a.Value == b.Value &&
		slices.Equal(a.Items, b.Items) && slices.Equal(a.Done, b.Done) && slices.Equal(a.Sums, b.Sums)
}

func script(steps []step) []api.Op {
	var ops []api.Op
	for _, s := range steps {
		ops = append(ops, s.op)
	}
	return ops
}

// check runs the steps as one script.
func check(t *testing.T, steps ...step) {
	t.Helper()
	answers := concord.Run(script(steps))
	if len(answers) != len(steps) {
		t.Fatalf("%d answers to %d steps", len(answers), len(steps))
	}
	for i, s := range steps {
		if !same(answers[i], s.want) {
			t.Errorf("step %d (%+v): %+v, want %+v", i, s.op, answers[i], s.want)
		}
	}
}

// wild makes a script of steps of the kinds from least to most, with texts
// and numbers of few sorts, so that they meet often, and some that are wrong.
func wild(source *rand.Rand, least, most, length int) []api.Op {
	texts := []string{"", "a", "ab", "abc", "b", "\x00", "\xff", "a\x00", "a\xff", "é", strings.Repeat("k", api.MaxKey), strings.Repeat("k", api.MaxKey+1)}
	values := []string{"", "x", "y", "\xff\x00", strings.Repeat("v", api.MaxValue), strings.Repeat("v", api.MaxValue+1)}
	numbers := []int{0, -1, 100, math.MaxInt, math.MinInt}
	ops := make([]api.Op, length)
	for i := range ops {
		ops[i] = api.Op{
			Kind:  least + source.Intn(most-least+1),
			T:     1 + source.Intn(10),
			Key:   texts[source.Intn(len(texts))],
			Value: values[source.Intn(len(values))],
			N:     source.Intn(5),
		}
		if source.Intn(10) == 0 {
			ops[i].T = numbers[source.Intn(len(numbers))]
			ops[i].N = numbers[source.Intn(len(numbers))]
		}
		if source.Intn(4) == 0 {
			ops[i].Kind = api.Begin
		}
	}
	return ops
}

// wilds makes many scripts, the same ones each time.
func wilds(least, most int) [][]api.Op {
	source := rand.New(rand.NewSource(1))
	var scripts [][]api.Op
	for range 300 {
		scripts = append(scripts, wild(source, least, most, 60))
	}
	return scripts
}

// lively makes a script whose transactions are mostly open ones and get to
// their commit; what is open is asked for on the way. It goes on from the
// steps that it is given. Rare kinds come up now and then only.
func lively(source *rand.Rand, ops []api.Op, length int, rare []int) []api.Op {
	kinds := []int{api.Begin, api.Begin, api.Get, api.Get, api.Get, api.Scan, api.Put, api.Put, api.Put, api.Put, api.Put, api.Put, api.Put, api.Del, api.Drop, api.Commit, api.Commit, api.Flush, api.Flush}
	keys := []string{"a", "ab", "abc", "b", "ba", "c", "\x00", "\xff", "\xffa", "d", "e", "f"}
	counts := []int{0, 1, 1, 2, 3, api.MaxFlush, api.MaxFlush + 1, -1}
	for len(ops) < length {
		h := history{ops, concord.Run(ops)}
		numbers := append(h.open(), h.clock()+1)
		for range 8 {
			op := api.Op{
				Kind:  kinds[source.Intn(len(kinds))],
				T:     numbers[source.Intn(len(numbers))],
				Key:   keys[source.Intn(len(keys))],
				Value: strings.Repeat("v", source.Intn(4)),
				N:     counts[source.Intn(len(counts))],
			}
			if op.Kind == api.Scan {
				op.Key = op.Key[:source.Intn(len(op.Key)+1)]
			}
			if len(rare) > 0 && source.Intn(12) == 0 {
				op.Kind = rare[source.Intn(len(rare))]
			}
			ops = append(ops, op)
		}
	}
	return ops
}

// livelies are lively scripts without FENCE, CLEAN and SUMS; drawn once, for
// that takes long.
var livelies = sync.OnceValue(func() [][]api.Op { return drawn(nil) })

// upkeeps are lively scripts with all kinds of steps, FENCE least often, for
// nothing outlives it.
var upkeeps = sync.OnceValue(func() [][]api.Op {
	return drawn(append(slices.Repeat([]int{api.Clean, api.Sums}, 7), api.Fence))
})

// drawn makes many scripts, the same ones each time; in some there is little
// room left, and in some no CLEAN can make much.
func drawn(rare []int) [][]api.Op {
	source := rand.New(rand.NewSource(2))
	var scripts [][]api.Op
	for range 30 {
		scripts = append(scripts,
			lively(source, nil, 600, rare),
			lively(source, script(filling(1, 8, 11)), 400, rare),
			lively(source, script(filling(1, 1, 91)), 400, rare))
	}
	return scripts
}

// filling has so many transactions, from a number on, each of which writes so
// many keys and is committed at once.
func filling(from, transactions, keys int) []step {
	var steps []step
	for i := range transactions {
		number := from + 2*i
		steps = append(steps, begin(number))
		for k := range keys {
			steps = append(steps, put(number, fmt.Sprint("k", k), fmt.Sprint(number)))
		}
		steps = append(steps, commit(number), flush(1, done(number, number+1)))
	}
	return steps
}
