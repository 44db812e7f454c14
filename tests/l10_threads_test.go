package tests

// Promise 11 (chapter 10), for threads with buffers: buffers add outcomes that the least fences take away.

import (
	"fmt"
	"math"
	"slices"
	"strings"
	"sync"
	"testing"

	"loop.example/g01112/impl"
)

// fence is a step.
var fence = impl.Step{Kind: 2}

// threadsFrom returns threads with | between them and a word for each step: r and the place, w, the place and the value, or f.
func threadsFrom(s string) [][]impl.Step {
	var threads [][]impl.Step
	for _, part := range strings.Split(s, "|") {
		var steps []impl.Step
		for _, word := range strings.Fields(part) {
			switch word[0] {
			case 'r':
				steps = append(steps, impl.Step{Place: int64(word[1] - '0')})
			case 'w':
				steps = append(steps, impl.Step{Kind: 1, Place: int64(word[1] - '0'), Value: int64(word[2] - '0')})
			default:
				steps = append(steps, fence)
			}
		}
		threads = append(threads, steps)
	}
	return threads
}

// outcomesFrom returns outcomes with a word for each of them, which has its numbers as digits, or - for no numbers.
func outcomesFrom(s string) [][]int64 {
	var outcomes [][]int64
	for _, word := range strings.Fields(s) {
		var outcome []int64
		for _, digit := range strings.Trim(word, "-") {
			outcome = append(outcome, int64(digit-'0'))
		}
		outcomes = append(outcomes, outcome)
	}
	return outcomes
}

// allSteps are all steps.
func allSteps() []impl.Step {
	return threadsFrom("r0 r1 w01 w02 w11 w12 f")[0]
}

// threadsOf are all threads of at most some steps.
func threadsOf(most int) [][]impl.Step {
	all := [][]impl.Step{nil}
	last := all
	for range most {
		var longer [][]impl.Step
		for _, steps := range last {
			for _, step := range allSteps() {
				longer = append(longer, append(slices.Clone(steps), step))
			}
		}
		all = append(all, longer...)
		last = longer
	}
	return all
}

// drawnThread returns a thread that follows from a seed. Fences are rarer than other steps.
func drawnThread(seed uint64, length int) []impl.Step {
	var steps []impl.Step
	for _, n := range drawn(seed, length, 13) {
		steps = append(steps, allSteps()[n/2])
	}
	return steps
}

// drawnLitmus are two threads of up to MaxLitmus steps for each seed.
func drawnLitmus(count uint64) [][][]impl.Step {
	var all [][][]impl.Step
	for seed := range count {
		all = append(all, [][]impl.Step{drawnThread(2*seed, int(seed%5)), drawnThread(2*seed+1, 4-int(seed/5%3))})
	}
	return all
}

// badSteps are steps of which one field is wrong.
func badSteps() []impl.Step {
	bad := []impl.Step{{Value: 1}, {Place: 1, Value: 2}, {Value: -1}, {Kind: 2, Place: 1}, {Kind: 2, Value: 1}, {Kind: 2, Place: -1}, {Kind: 2, Place: 1, Value: 2}, {Kind: 1}, {Kind: 1, Place: 1}}
	for _, n := range []int64{-1, 3, -2, 4, 1 << 32, 1<<32 + 1, math.MinInt64, math.MaxInt64} {
		bad = append(bad, impl.Step{Kind: n}, impl.Step{Kind: n, Place: 1, Value: 1}, impl.Step{Kind: 1, Value: n}, impl.Step{Kind: 1, Place: 1, Value: n})
	}
	for _, n := range []int64{-1, 2, -2, 3, 1 << 32, 1<<32 + 1, math.MinInt64, math.MaxInt64} {
		bad = append(bad, impl.Step{Place: n}, impl.Step{Kind: 1, Place: n, Value: 1}, impl.Step{Kind: 2, Place: n}, impl.Step{Kind: 2, Value: n}, impl.Step{Value: n})
	}
	return bad
}

// badThreads are threads that are not valid.
func badThreads() [][][]impl.Step {
	bad := [][][]impl.Step{nil, {}, {nil, nil, nil}, {{}, {}, {}}, threadsFrom("r0 | r1 | r0"), threadsFrom("r0 r0 r0 r0 r0"), threadsFrom("f f f f f | f"), threadsFrom("f | f f f f f"), threadsFrom("| w01 w01 w01 w01 r1 r0")}
	for _, step := range badSteps() {
		bad = append(bad, [][]impl.Step{{step}}, [][]impl.Step{nil, {step}}, [][]impl.Step{threadsFrom("w01 r1")[0], append(threadsFrom("w11 r0 f")[0], step)}, [][]impl.Step{append([]impl.Step{step}, threadsFrom("r0 r0 r1")[0]...), nil})
	}
	return bad
}

// badDepths are numbers that are no depths.
func badDepths() []int64 {
	return []int64{0, 4, -1, 5, 1 << 32, 1<<32 + 1, math.MinInt64, math.MaxInt64}
}

// memoryEvent is what a thread does at the memory, in the order in which this comes to pass: it reads a place, or lets a write go
// there. Values that it reads elsewhere are events without a place.
type memoryEvent struct {
	isRead       bool
	place, value int64
}

// ordersOf returns all orders of the events of a thread that begins with some delayed writes. All of these go to the memory in
// the end, which does not matter where the other thread has made its steps before.
func ordersOf(steps, delayed []impl.Step, depth int) [][]memoryEvent {
	if len(steps) == 0 && len(delayed) == 0 {
		return [][]memoryEvent{nil}
	}
	var orders [][]memoryEvent
	begin := func(rest [][]memoryEvent, first ...memoryEvent) {
		for _, order := range rest {
			orders = append(orders, append(slices.Clone(first), order...))
		}
	}
	if len(delayed) > 0 {
		begin(ordersOf(steps, delayed[1:], depth), memoryEvent{false, delayed[0].Place, delayed[0].Value})
	}
	if len(steps) == 0 {
		return orders
	}
	switch step := steps[0]; {
	case step.Kind == 0:
		event := memoryEvent{true, step.Place, 0}
		for _, write := range delayed {
			if write.Place == step.Place {
				event = memoryEvent{true, -1, write.Value}
			}
		}
		begin(ordersOf(steps[1:], delayed, depth), event)
	case step.Kind == 1 && depth == 0:
		begin(ordersOf(steps[1:], nil, depth), memoryEvent{false, step.Place, step.Value})
	case step.Kind == 1 && len(delayed) < depth:
		begin(ordersOf(steps[1:], append(slices.Clone(delayed), step), depth))
	case step.Kind == 2 && len(delayed) == 0:
		begin(ordersOf(steps[1:], nil, depth))
	}
	return orders
}

// addMerged adds the outcomes of two orders of events, merged in all ways.
func addMerged(a, b []memoryEvent, memory [2]int64, first, second string, outcomes map[string]bool) {
	if len(a) == 0 && len(b) == 0 {
		outcomes[first+second] = true
	}
	if len(a) > 0 {
		next, read := memory, first
		a[0].happen(&next, &read)
		addMerged(a[1:], b, next, read, second, outcomes)
	}
	if len(b) > 0 {
		next, read := memory, second
		b[0].happen(&next, &read)
		addMerged(a, b[1:], next, first, read, outcomes)
	}
}

// happen lets an event come to pass.
func (e memoryEvent) happen(memory *[2]int64, read *string) {
	switch {
	case !e.isRead:
		memory[e.place] = e.value
	case e.place < 0:
		*read += fmt.Sprint(e.value)
	default:
		*read += fmt.Sprint(memory[e.place])
	}
}

// toldOutcomes returns what the document tells about outcomes with buffers, or without them if the depth is 0.
func toldOutcomes(threads [][]impl.Step, depth int) [][]int64 {
	found := map[string]bool{}
	for _, a := range ordersOf(threads[0], nil, depth) {
		for _, b := range ordersOf(append(slices.Clone(threads), nil)[1], nil, depth) {
			addMerged(a, b, [2]int64{}, "", "", found)
		}
	}
	var words []string
	for word := range found {
		words = append(words, word+"-")
	}
	slices.Sort(words)
	return outcomesFrom(strings.Join(words, " "))
}

// withFences returns the threads with a fence before each step of the document's places.
func withFences(threads [][]impl.Step, places ...int64) [][]impl.Step {
	var fenced [][]impl.Step
	for k, steps := range threads {
		fenced = append(fenced, slices.Clone(steps))
		for _, place := range slices.Backward(places) {
			if place/10 == int64(k) {
				fenced[k] = slices.Insert(fenced[k], int(place%10), fence)
			}
		}
	}
	return fenced
}

// toldFences returns what the document tells about the least fences, where outcomes are those of a function.
func toldFences(threads [][]impl.Step, depth int, outcomes func([][]impl.Step, int) [][]int64) ([][]impl.Step, bool) {
	var all []int64
	for k, steps := range threads {
		for i := range steps {
			all = append(all, int64(10*k+i))
		}
	}
	wanted := show(outcomes(threads, 0))
	for count := range len(all) + 1 {
		for _, set := range setsOf(all, count) {
			fenced := withFences(threads, set...)
			if !slices.ContainsFunc(fenced, func(steps []impl.Step) bool { return len(steps) > 4 }) && show(outcomes(fenced, depth)) == wanted {
				return fenced, true
			}
		}
	}
	return nil, false
}

// setsOf returns the sets of some of the elements of a set, in lexicographic order.
func setsOf(set []int64, count int) [][]int64 {
	if count == 0 {
		return [][]int64{nil}
	}
	var sets [][]int64
	for i, first := range set {
		for _, rest := range setsOf(set[i+1:], count-1) {
			sets = append(sets, append([]int64{first}, rest...))
		}
	}
	return sets
}

// expectOutcomes fails the test unless the outcomes of threads are as the document tells, and each buffer that is deeper adds
// to them.
func expectOutcomes(t *testing.T, threads [][]impl.Step) {
	t.Helper()
	what := fmt.Sprint(threads)
	last, _ := impl.PlainOutcomes(threads)
	expect(t, what, of(impl.PlainOutcomes(threads)), of(toldOutcomes(threads, 0), true))
	for depth := 1; depth <= 3; depth++ {
		outcomes, ok := impl.BufferedOutcomes(threads, int64(depth))
		expect(t, what, of(outcomes, ok), of(toldOutcomes(threads, depth), true))
		for _, outcome := range last {
			if !slices.ContainsFunc(outcomes, func(o []int64) bool { return slices.Equal(o, outcome) }) {
				t.Errorf("%s: %v is not with the depth %d", what, outcome, depth)
			}
		}
		last = outcomes
	}
}

// expectFences fails the test unless the least fences of threads are as the document tells, and keep what they promise.
func expectFences(t *testing.T, threads [][]impl.Step, depth int) {
	t.Helper()
	what := fmt.Sprint(threads, depth)
	fenced, ok := impl.LeastFences(threads, int64(depth))
	want, wantOk := toldFences(threads, depth, toldOutcomes)
	expect(t, what, of(fenced, ok), of(want, wantOk))
	if ok {
		plain, _ := impl.PlainOutcomes(threads)
		expect(t, what, of(impl.BufferedOutcomes(fenced, int64(depth))), of(plain, true))
	}
}

func TestValidLitmus(t *testing.T) {
	for _, threads := range [][][]impl.Step{{nil}, {{}}, {nil, nil}, {{}, {}}, {nil, {}}, threadsFrom("r0 r1 w01 w02"), threadsFrom("w11 w12 f f | "), threadsFrom("| r0 r0 r0 r0"), threadsFrom("f f f f | f f f f"), threadsFrom("w02 r1 w12 r0 | r1 r1 r1 f")} {
		expect(t, fmt.Sprint(threads), of(impl.ValidLitmus(threads)), of(true))
	}
	for _, threads := range badThreads() {
		what := fmt.Sprint(threads)
		expect(t, what, of(impl.ValidLitmus(threads)), of(false))
		expect(t, what, of(impl.PlainOutcomes(threads)), of([][]int64{}, false))
		for depth := range int64(5) {
			expect(t, what, of(impl.BufferedOutcomes(threads, depth)), of([][]int64{}, false))
			expect(t, what, of(impl.LeastFences(threads, depth)), of([][]impl.Step{}, false))
		}
	}
}

// TestEachStep: of all steps with small numbers, only those that the document tells are valid.
func TestEachStep(t *testing.T) {
	for n := range int64(7 * 7 * 7) {
		step := impl.Step{Kind: n/49 - 2, Place: n/7%7 - 2, Value: n%7 - 2}
		expect(t, fmt.Sprint(step), of(impl.ValidLitmus([][]impl.Step{{step}})), of(slices.Contains(allSteps(), step)))
	}
}

func TestDepths(t *testing.T) {
	for _, threads := range [][][]impl.Step{threadsFrom("w01 r1 | w11 r0"), threadsFrom("r0"), {nil}} {
		for _, depth := range badDepths() {
			expect(t, fmt.Sprint("depth ", depth), of(impl.BufferedOutcomes(threads, depth)), of([][]int64{}, false))
			expect(t, fmt.Sprint("depth ", depth), of(impl.LeastFences(threads, depth)), of([][]impl.Step{}, false))
		}
	}
}

// TestOutcomes: outcomes without buffers and with each depth, the last of which stands for the deeper ones.
func TestOutcomes(t *testing.T) {
	for _, x := range []struct {
		what     string
		threads  string
		outcomes []string
	}{
		{"no steps", "", []string{"-"}},
		{"no steps in two threads", "|", []string{"-"}},
		{"no reads", "w01 f | w02 w12", []string{"-"}},
		{"fences alone", "f f f f | f", []string{"-"}},
		{"a read of what nobody writes", "r1", []string{"0"}},
		{"a fence with an empty list", "f r0 f", []string{"0"}},
		{"a fence with a full list", "w01 w01 w02 f | r0", []string{"0 1 2"}},
		{"the own write", "w12 r1", []string{"2"}},
		{"the own write beside another place", "w12 r0", []string{"0"}},
		{"the later of two own writes", "w01 w02 r0", []string{"2"}},
		{"the older of two own writes, and the later of another place", "w01 w12 r0 r1", []string{"12"}},
		{"the own write behind a fence", "w01 w02 f r0", []string{"2"}},
		{"another thread's write", "w01 | r0 r0", []string{"00 01 11"}},
		{"the writes of another thread in order", "w01 w02 | r0 r0", []string{"00 01 02 11 12 22"}},
		{"the reads of the first thread stand first", "r0 | r1 w01", []string{"00 10"}},
		{"the example", "w01 r1 | w11 r0", []string{"01 10 11", "00 01 10 11"}},
		{"the example with a fence in one thread", "w01 f r1 | w11 r0", []string{"01 10 11", "00 01 10 11"}},
		{"the example with both fences", "w01 f r1 | w11 f r0", []string{"01 10 11"}},
		{"the example with fences at the wrong places", "f w01 r1 | f w11 r0 f", []string{"01 10 11", "00 01 10 11"}},
		{"writes stay in order", "w01 w11 | r1 r0", []string{"00 01 11"}},
		{"reads stay before writes", "r0 w11 | r1 w01", []string{"00 01 10"}},
		{"a thread alone sees its own write first", "w01 r0 r1 | w11 r1 r0", []string{"1011 1110 1111", "1010 1011 1110 1111"}},
		{"a full list lets the first write go", "w01 w01 r1 | w11 w11 r0", []string{"01 10 11", "01 10 11", "00 01 10 11"}},
		{"a longer list lets the first write go", "w01 w01 w01 r1 | w11 w11 w11 r0", []string{"01 10 11", "01 10 11", "01 10 11", "00 01 10 11"}},
		{"an own write over another one", "w01 r0 | w02", []string{"1 2"}},
		{"an own write over another one for each depth", "w01 r0 r0 | w02 r0", []string{"111 112 122 222"}},
	} {
		threads := threadsFrom(x.threads)
		for depth := range 4 {
			want := outcomesFrom(x.outcomes[min(depth, len(x.outcomes)-1)])
			slices.SortFunc(want, slices.Compare)
			if depth == 0 {
				expect(t, x.what, of(impl.PlainOutcomes(threads)), of(want, true))
			} else {
				expect(t, fmt.Sprint(x.what, depth), of(impl.BufferedOutcomes(threads, int64(depth))), of(want, true))
			}
		}
		expectOutcomes(t, threads)
	}
}

// TestOutcomesOfShort: the outcomes of all short threads are as the document tells.
func TestOutcomesOfShort(t *testing.T) {
	for _, first := range threadsOf(4) {
		if len(first) < 4 || fmt.Sprint(first) < "[{1" {
			expectOutcomes(t, [][]impl.Step{first})
		}
		if len(first) <= 2 {
			for _, second := range threadsOf(2) {
				expectOutcomes(t, [][]impl.Step{first, second})
			}
		}
	}
}

// TestOutcomesOfDrawn: so are those of longer ones.
func TestOutcomesOfDrawn(t *testing.T) {
	for _, threads := range drawnLitmus(500) {
		expectOutcomes(t, threads)
	}
}

func TestLeastFences(t *testing.T) {
	for _, x := range []struct {
		what    string
		threads string
		fenced  []string
	}{
		{"no steps", "", []string{"", "", ""}},
		{"no steps in two threads", "|", []string{"|", "|", "|"}},
		{"one thread alone", "w01 w12 r0 r1", []string{"w01 w12 r0 r1", "w01 w12 r0 r1", "w01 w12 r0 r1"}},
		{"no reads", "w01 w11 | w12 w02", []string{"w01 w11 | w12 w02", "w01 w11 | w12 w02", "w01 w11 | w12 w02"}},
		{"none that is needed", "w01 w11 | r1 r0", []string{"w01 w11 | r1 r0", "w01 w11 | r1 r0", "w01 w11 | r1 r0"}},
		{"the example", "w01 r1 | w11 r0", []string{"w01 f r1 | w11 f r0", "w01 f r1 | w11 f r0", "w01 f r1 | w11 f r0"}},
		{"one for the second thread", "w01 f r1 | w11 r0", []string{"w01 f r1 | w11 f r0", "w01 f r1 | w11 f r0", "w01 f r1 | w11 f r0"}},
		{"one for the first thread", "w01 r1 | w11 f r0", []string{"w01 f r1 | w11 f r0", "w01 f r1 | w11 f r0", "w01 f r1 | w11 f r0"}},
		{"fences that are there already", "w01 f r1 | w11 f r0", []string{"w01 f r1 | w11 f r0", "w01 f r1 | w11 f r0", "w01 f r1 | w11 f r0"}},
		{"a fence that does not help", "f w01 r1 | w11 r0 f", []string{"f w01 f r1 | w11 f r0 f", "f w01 f r1 | w11 f r0 f", "f w01 f r1 | w11 f r0 f"}},
		{"several least lists", "w01 r0 r1 | w11 f r0", []string{"w01 f r0 r1 | w11 f r0", "w01 f r0 r1 | w11 f r0", "w01 f r0 r1 | w11 f r0"}},
		{"several least lists in both threads", "w01 r0 r1 | w11 r1 r0", []string{"w01 f r0 r1 | w11 f r1 r0", "w01 f r0 r1 | w11 f r1 r0", "w01 f r0 r1 | w11 f r1 r0"}},
		{"a depth that needs none", "w01 w01 r1 | w11 w11 r0", []string{"w01 w01 r1 | w11 w11 r0", "w01 f w01 r1 | w11 f w11 r0", "w01 f w01 r1 | w11 f w11 r0"}},
		{"as many steps as can be that need none", "w01 w01 w01 r1 | w11 w11 w11 r0", []string{"w01 w01 w01 r1 | w11 w11 w11 r0", "w01 w01 w01 r1 | w11 w11 w11 r0", "no"}},
		{"one thread has no room", "w01 r1 r1 r1 | w11 f r0", []string{"no", "no", "no"}},
		{"the other thread has no room", "w01 r1 | w11 r0 r0 r0", []string{"no", "no", "no"}},
		{"no room where none is needed", "w01 f r1 r1 | w11 r0", []string{"w01 f r1 r1 | w11 f r0", "w01 f r1 r1 | w11 f r0", "w01 f r1 r1 | w11 f r0"}},
	} {
		threads := threadsFrom(x.threads)
		for i, fenced := range x.fenced {
			if fenced == "no" {
				expect(t, x.what, of(impl.LeastFences(threads, int64(i+1))), of([][]impl.Step{}, false))
			} else {
				expect(t, x.what, of(impl.LeastFences(threads, int64(i+1))), of(threadsFrom(fenced), true))
			}
			expectFences(t, threads, i+1)
		}
	}
}

// TestFencesOfShort: the least fences of all short threads are as the document tells.
func TestFencesOfShort(t *testing.T) {
	for i, first := range threadsOf(2) {
		for j, second := range threadsOf(2) {
			expectFences(t, [][]impl.Step{first, second}, 1+(i+j)%3)
		}
	}
}

// TestFencesOfDrawn: so are those of longer ones.
func TestFencesOfDrawn(t *testing.T) {
	for i, threads := range drawnLitmus(700) {
		expectFences(t, threads, 1+i%3)
	}
}

// TestFencesDoNotMatterPlain: without buffers, fences change no outcome, and a fence behind each write takes all delays away.
func TestFencesDoNotMatterPlain(t *testing.T) {
	for _, threads := range drawnLitmus(100) {
		var bare, calm [][]impl.Step
		for _, steps := range threads {
			steps = slices.DeleteFunc(slices.Clone(steps), func(s impl.Step) bool { return s.Kind == 2 })
			bare = append(bare, steps)
			var fenced []impl.Step
			for _, step := range steps[:min(len(steps), 2)] {
				fenced = append(fenced, step, fence)
			}
			calm = append(calm, fenced)
		}
		want, _ := impl.PlainOutcomes(bare)
		expect(t, fmt.Sprint(threads), of(impl.PlainOutcomes(threads)), of(want, true))
		want, _ = impl.PlainOutcomes(calm)
		for depth := int64(1); depth <= 3; depth++ {
			expect(t, fmt.Sprint(calm), of(impl.BufferedOutcomes(calm, depth)), of(want, true))
		}
	}
}

// TestAgain: the functions with goroutines return the same many times, one after another and beside each other.
func TestAgain(t *testing.T) {
	some := append(drawnLitmus(30), threadsFrom("w01 r1 | w11 r0"), threadsFrom("w01 w02 r1 r0 | w11 w12 r0 r1"), threadsFrom("w01 r0 r1 | w11 r1 r0"))
	var group sync.WaitGroup
	for _, threads := range some {
		plain, buffered, fenced := show(of(impl.PlainOutcomes(threads))...), show(of(impl.BufferedOutcomes(threads, 2))...), show(of(impl.LeastFences(threads, 2))...)
		for range 4 {
			group.Go(func() {
				for range 25 {
					again := []string{show(of(impl.PlainOutcomes(threads))...), show(of(impl.BufferedOutcomes(threads, 2))...), show(of(impl.LeastFences(threads, 2))...)}
					if !slices.Equal(again, []string{plain, buffered, fenced}) {
						t.Errorf("%v: first %s %s %s, later %v", threads, plain, buffered, fenced, again)
					}
				}
			})
		}
	}
	group.Wait()
}
