package concord_test

import (
	"fmt"
	"math"
	"slices"
	"strings"
	"sync"
	"testing"

	"concord/api"
	"concord/concord"
)

func TestP1NoSteps(t *testing.T) {
	for _, ops := range [][]api.Op{nil, {}} {
		if answers := concord.Run(ops); len(answers) != 0 {
			t.Errorf("%d answers to no step", len(answers))
		}
	}
}

func TestP1EachStepIsAnswered(t *testing.T) {
	for _, ops := range wilds(-1, 13) {
		if answers := concord.Run(ops); len(answers) != len(ops) {
			t.Fatalf("%d answers to %d steps: %+v", len(answers), len(ops), ops)
		}
	}
}

func TestP1StrangeFields(t *testing.T) {
	numbers := []int{math.MinInt, math.MinInt + 1, -1, 0, 1, 2, math.MaxInt - 1, math.MaxInt}
	texts := []string{"", "a", "\x00\xff\xfe", strings.Repeat("z", 1<<20)}
	var ops []api.Op
	for kind := -1; kind <= 13; kind++ {
		for _, n := range numbers {
			for _, text := range texts {
				ops = append(ops, api.Op{Kind: kind, T: n, Key: text, Value: text, N: n})
				ops = append(ops, api.Op{Kind: n, T: kind, Key: text, Value: text, N: n})
			}
		}
	}
	if answers := concord.Run(ops); len(answers) != len(ops) {
		t.Errorf("%d answers to %d steps", len(answers), len(ops))
	}
}

func TestP1ManySteps(t *testing.T) {
	steps := []step{begin(1)}
	for i := range 50000 {
		key := fmt.Sprint("k", i)
		steps = append(steps, put(1, key, "v"), found(1, key, "v"))
	}
	for i := range 50000 {
		steps = append(steps, begin(2+i), drop(2+i))
	}
	for i := range 50000 {
		number := 50002 + 2*i
		// The first FENCE ends the one from above, the first CLEAN finds nothing.
		steps = append(steps, fence(max(1-i, 0)), begin(number), put(number, "a", "x"), commit(number), flush(1, done(number, number+1)),
			clean(min(i, 1)), sums(1, 0, 0, 1, number-1, number+1))
	}
	check(t, steps...)
}

// TestP2Again also runs at the same time, so that nothing kept between calls
// would go unseen.
func TestP2Again(t *testing.T) {
	for _, ops := range slices.Concat(wilds(0, 12), upkeeps()[:6]) {
		first := concord.Run(ops)
		others := make([][]api.Answer, 4)
		var group sync.WaitGroup
		for i := range others {
			group.Go(func() { others[i] = concord.Run(ops) })
		}
		group.Wait()
		for _, other := range others {
			if !slices.EqualFunc(first, other, same) {
				t.Fatalf("one script, two answers: %+v and %+v", first, other)
			}
		}
	}
}

func TestP2StepsAheadAlone(t *testing.T) {
	for _, ops := range wilds(0, 12)[:60] {
		whole := concord.Run(ops)
		for i := range ops {
			if part := concord.Run(ops[:i]); !slices.EqualFunc(part, whole[:i], same) {
				t.Fatalf("the first %d of %+v: %+v, want %+v", i, ops, part, whole[:i])
			}
		}
	}
}

func TestP2ScriptIsNotWrittenInto(t *testing.T) {
	for _, ops := range slices.Concat(wilds(0, 12), upkeeps()[:6]) {
		room := slices.Clone(ops)
		half := len(room) / 2
		concord.Run(room[:half])
		if !slices.Equal(room, ops) {
			t.Fatalf("written into: %+v, was %+v", room, ops)
		}
		concord.Run(room)
		if !slices.Equal(room, ops) {
			t.Fatalf("written into: %+v, was %+v", room, ops)
		}
	}
}

// spoil writes into all of a list, its spare room too.
func spoil[T any](list []T, with T) {
	list = list[:cap(list)]
	for i := range list {
		list[i] = with
	}
}

// copied is the answers in memory of their own.
func copied(answers []api.Answer) []api.Answer {
	answers = slices.Clone(answers)
	for i := range answers {
		answers[i].Items = slices.Clone(answers[i].Items)
		answers[i].Done = slices.Clone(answers[i].Done)
		answers[i].Sums = slices.Clone(answers[i].Sums)
	}
	return answers
}

func TestP2ListsAreNewMemory(t *testing.T) {
	for _, ops := range slices.Concat(wilds(0, 12), upkeeps()[:6]) {
		answers := concord.Run(ops)
		want := copied(answers)
		for i := range answers {
			spoil(answers[i].Items, api.Item{Key: "spoilt"})
			spoil(answers[i].Done, api.Decision{Number: -7})
			spoil(answers[i].Sums, -7)
			for k := i + 1; k < len(answers); k++ {
				if !same(answers[k], want[k]) {
					t.Fatalf("answers %d and %d share memory", i, k)
				}
			}
		}
		spoil(answers, api.Answer{Code: -7})
		if again := concord.Run(ops); !slices.EqualFunc(again, want, same) {
			t.Fatalf("an answer's memory is used again: %+v, want %+v", again, want)
		}
	}
}

func TestP2ListsOfOneScanAgain(t *testing.T) {
	ops := script([]step{begin(1), put(1, "a", "x"), put(1, "b", "y"), scan(1, ""), scan(1, ""), scan(1, "a")})
	answers := concord.Run(ops)
	spoil(answers[3].Items, api.Item{Key: "spoilt"})
	if want := scan(1, "", "a", "x", "b", "y").want; !same(answers[4], want) {
		t.Errorf("a later scan's list shares memory: %+v", answers[4])
	}
	if want := scan(1, "a", "a", "x").want; !same(answers[5], want) {
		t.Errorf("a later scan's list shares memory: %+v", answers[5])
	}
}
