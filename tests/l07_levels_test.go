package tests

// Promise 8 (chapter 7): with every cache and every buffer, what is read and what is left in the end is what was written;
// traffic balances; levels are inclusive or exclusive as they should.

import (
	"fmt"
	"math"
	"slices"
	"testing"

	"loop.example/g01112/impl"
)

// cachesOf returns the caches with a policy, one for each pair of Back and Allocate.
func cachesOf(p impl.Policy) []impl.Cache {
	return []impl.Cache{{Policy: p}, {Policy: p, Allocate: true}, {Policy: p, Back: true}, {Policy: p, Back: true, Allocate: true}}
}

// cacheText returns a short text of a cache and a trace.
func cacheText(c impl.Cache, trace []impl.Access) string {
	return fmt.Sprint(textOf(c.Policy), " back ", c.Back, " allocate ", c.Allocate, " ", trace)
}

// traceWithText returns the trace with a text whose form is right.
func traceWithText(s string) []impl.Access {
	trace, ok := traceOf(s)
	if !ok {
		panic(s)
	}
	return trace
}

// drawnTrace returns a trace that follows from a seed, in which so many of a hundred accesses are writes.
func drawnTrace(seed uint64, length int, below, writes int64) []impl.Access {
	addresses, parts := drawn(seed, length, below), drawn(seed+5000, length, 100)
	var trace []impl.Access
	for i, a := range addresses {
		kind := int64(impl.Read)
		if parts[i] < writes {
			kind = impl.Write
		}
		trace = append(trace, access(kind, a))
	}
	return trace
}

// cacheTraces are traces for chapter 7, among them none, reads alone, writes alone, and all short ones of a few accesses.
func cacheTraces() [][]impl.Access {
	traces := [][]impl.Access{nil, slices.Repeat(traceWithText("63w"), impl.MaxTrace), slices.Repeat(traceWithText("0"), impl.MaxTrace)}
	for seed := range uint64(14) {
		below := int64(4 * (1 + seed))
		traces = append(traces, drawnTrace(seed, impl.MaxTrace, below, 50), drawnTrace(seed+20, impl.MaxTrace, below, 20), drawnTrace(seed+40, 30, below, 80))
	}
	for _, writes := range []int64{0, 100} {
		traces = append(traces, drawnTrace(70, impl.MaxTrace, 16, writes), drawnTrace(71, impl.MaxTrace, impl.MaxAddress, writes))
	}
	return append(traces, shortTraces(3)...)
}

// shortTraces are all traces of a few accesses to the first and the last words of two lines.
func shortTraces(length int) [][]impl.Access {
	var traces [][]impl.Access
	for _, list := range listsUpTo(length, 0, 1, 6, 7, 8, 9) {
		var trace []impl.Access
		for _, n := range list {
			trace = append(trace, access(n%2, n/2))
		}
		traces = append(traces, trace)
	}
	return traces
}

// badTraces are no traces.
func badTraces() [][]impl.Access {
	bad := [][]impl.Access{slices.Repeat(traceWithText("0"), impl.MaxTrace+1), slices.Repeat(traceWithText("5w"), impl.MaxTrace+1), {access(-1, 5)}, {access(2, 5)}, {access(0, 5), access(math.MaxInt64, 5)}}
	for _, n := range []int64{-1, 64, 65, -64, 1 << 32, math.MinInt64, math.MaxInt64} {
		bad = append(bad, []impl.Access{access(0, n)}, []impl.Access{access(1, n)}, []impl.Access{access(1, 5), access(1, n), access(0, 5)})
	}
	return bad
}

// cachePolicies are policies of all ways, of each known kind, and others.
func cachePolicies() []impl.Policy {
	policies := append(knownPolicies(), allPolicies(2)...)
	for ways := 3; ways <= impl.MaxWays; ways++ {
		policies = append(policies, seededPolicies(ways, 3)...)
	}
	return policies
}

// eachCache calls check for many caches and traces.
func eachCache(check func(c impl.Cache, trace []impl.Access)) {
	traces := cacheTraces()
	long := len(traces) - len(shortTraces(3))
	for i, p := range cachePolicies() {
		for _, c := range cachesOf(p) {
			for j, trace := range traces {
				if j < long || (i+j)%16 == 0 {
					check(c, trace)
				}
			}
		}
	}
}

// plainWords returns what all reads of a trace read and all words in the end, each found by looking back for the last write.
func plainWords(trace []impl.Access) (reads, words []int64) {
	last := func(end int, address int64) int64 {
		for k := end - 1; k >= 0; k-- {
			if trace[k] == access(impl.Write, address) {
				return int64(k + 1)
			}
		}
		return 0
	}
	for k, x := range trace {
		if x.Kind == impl.Read {
			reads = append(reads, last(k, x.Address))
		}
	}
	for a := range int64(impl.MaxAddress) {
		words = append(words, last(len(trace), a))
	}
	return reads, words
}

// wordsWith returns all words of a memory in which those at some addresses are not 0.
func wordsWith(values map[int64]int64) []int64 {
	words := repeated(0, impl.MaxAddress)
	for address, value := range values {
		words[address] = value
	}
	return words
}

// copiedLine is a line in a cache.
type copiedLine struct {
	words   [impl.LineWords]int64
	isDirty bool
}

// toldCache does what the document tells about a cache, one sentence after the other.
type toldCache struct {
	cache    impl.Cache
	memory   []int64
	contents []int64
	lines    map[int64]*copiedLine
	traffic  impl.Traffic
	reads    []int64
}

// step makes the policy's step with a line, and lets the words of a dirty line go out that is replaced.
func (m *toldCache) step(line int64) {
	before := m.contents
	m.contents, _ = stepOf(m.cache.Policy, before, line)
	for _, old := range before {
		if old != -1 && !slices.Contains(m.contents, old) {
			m.traffic.Out += m.writeBack(old)
			delete(m.lines, old)
		}
	}
}

// writeBack lets the words of a line go out if it is dirty, and returns how many these are.
func (m *toldCache) writeBack(line int64) int64 {
	if !m.lines[line].isDirty {
		return 0
	}
	copy(m.memory[4*line:], m.lines[line].words[:])
	return 4
}

// access makes the access with an index.
func (m *toldCache) access(k int, x impl.Access) {
	line, word := x.Address/4, x.Address%4
	isHit, isWrite := m.lines[line] != nil, x.Kind == impl.Write
	if isHit {
		m.traffic.Hits++
		m.step(line)
	} else {
		m.traffic.Misses++
	}
	if !isHit && (!isWrite || m.cache.Allocate) {
		m.traffic.In += 4
		m.lines[line] = &copiedLine{words: [4]int64(m.memory[4*line : 4*line+4])}
		m.step(line)
	}
	held := m.lines[line]
	if !isWrite {
		m.reads = append(m.reads, held.words[word])
		return
	}
	if held != nil {
		held.words[word] = int64(k + 1)
		held.isDirty = m.cache.Back
	}
	if held == nil || !m.cache.Back {
		m.memory[x.Address] = int64(k + 1)
		m.traffic.Out++
	}
}

// runToldCache makes all accesses of a trace without the flush.
func runToldCache(c impl.Cache, trace []impl.Access) *toldCache {
	m := &toldCache{cache: c, memory: repeated(0, impl.MaxAddress), contents: emptyOf(c.Policy), lines: map[int64]*copiedLine{}}
	for k, x := range trace {
		m.access(k, x)
	}
	return m
}

// dirtyLines returns the lines that are dirty.
func (m *toldCache) dirtyLines() []int64 {
	var dirty []int64
	for line, held := range m.lines {
		if held.isDirty {
			dirty = append(dirty, line)
		}
	}
	return sortedSet(dirty)
}

// flush lets the words of all lines go out that are still dirty.
func (m *toldCache) flush() {
	for _, line := range m.dirtyLines() {
		m.traffic.Flushed += m.writeBack(line)
	}
}

func TestLevelsLimits(t *testing.T) {
	expect(t, "limits", of(impl.LineWords, impl.MemoryLines, impl.MaxBuffered), of(4, 16, 8))
	expect(t, "modes", of(impl.ModeFree, impl.ModeInclusive, impl.ModeExclusive), of(0, 1, 2))
}

func TestValidCache(t *testing.T) {
	for _, p := range manyPolicies() {
		for _, c := range cachesOf(p) {
			expect(t, cacheText(c, nil), of(impl.ValidCache(c)), of(true))
		}
	}
	for _, p := range badPolicies() {
		for _, c := range cachesOf(p) {
			expect(t, fmt.Sprint(c), of(impl.ValidCache(c)), of(false))
		}
	}
}

// TestPlain: reads and words are the values of the last writes, which are the indices of the accesses plus 1.
func TestPlain(t *testing.T) {
	some := traceWithText("63w 0w 63 5 0w*2 0 63w 63")
	expect(t, "reads", of(impl.PlainReads(some)), of([]int64{1, 0, 6, 8}, true))
	expect(t, "words", of(impl.PlainMemory(some)), of(wordsWith(map[int64]int64{0: 6, 63: 8}), true))
	expect(t, "no accesses", of(impl.PlainReads(nil)), of([]int64{}, true))
	expect(t, "no accesses", of(impl.PlainMemory(nil)), of(repeated(0, 64), true))
	expect(t, "writes alone", of(impl.PlainReads(traceWithText("5w*60"))), of([]int64{}, true))
	expect(t, "writes alone", of(impl.PlainMemory(traceWithText("5w*60"))), of(wordsWith(map[int64]int64{5: 60}), true))
	expect(t, "reads alone", of(impl.PlainReads(traceWithText("5*60"))), of(repeated(0, 60), true))
	expect(t, "reads alone", of(impl.PlainMemory(traceWithText("5*60"))), of(repeated(0, 64), true))
	for _, trace := range cacheTraces() {
		reads, words := plainWords(trace)
		expect(t, fmt.Sprint(trace), of(impl.PlainReads(trace)), of(reads, true))
		expect(t, fmt.Sprint(trace), of(impl.PlainMemory(trace)), of(words, true))
	}
}

// TestCacheExamples: what caches do, written down from the document, for the pairs of Back and Allocate in the order of
// cachesOf.
func TestCacheExamples(t *testing.T) {
	for _, x := range []struct {
		policy, trace string
		dirty         [2][]int64
		traffic       [4]impl.Traffic
	}{
		{"0|0", "", [2][]int64{}, [4]impl.Traffic{}},
		{"0|0", "5w 5", [2][]int64{nil, {1}}, [4]impl.Traffic{{Misses: 2, In: 4, Out: 1}, {Hits: 1, Misses: 1, In: 4, Out: 1}, {Misses: 2, In: 4, Out: 1}, {Hits: 1, Misses: 1, In: 4, Flushed: 4}}},
		{"0|0", "5 5w", [2][]int64{{1}, {1}}, [4]impl.Traffic{{Hits: 1, Misses: 1, In: 4, Out: 1}, {Hits: 1, Misses: 1, In: 4, Out: 1}, {Hits: 1, Misses: 1, In: 4, Flushed: 4}, {Hits: 1, Misses: 1, In: 4, Flushed: 4}}},
		{"0|0", "5w 5 6w*2 7", [2][]int64{{1}, {1}}, [4]impl.Traffic{{Hits: 3, Misses: 2, In: 4, Out: 3}, {Hits: 4, Misses: 1, In: 4, Out: 3}, {Hits: 3, Misses: 2, In: 4, Out: 1, Flushed: 4}, {Hits: 4, Misses: 1, In: 4, Flushed: 4}}},
		{"0|0", "5 9 5w 5", [2][]int64{nil, {1}}, [4]impl.Traffic{{Misses: 4, In: 12, Out: 1}, {Hits: 1, Misses: 3, In: 12, Out: 1}, {Misses: 4, In: 12, Out: 1}, {Hits: 1, Misses: 3, In: 12, Flushed: 4}}},
		{"0|0", "0 0w 4 0", [2][]int64{nil, nil}, [4]impl.Traffic{{Hits: 1, Misses: 3, In: 12, Out: 1}, {Hits: 1, Misses: 3, In: 12, Out: 1}, {Hits: 1, Misses: 3, In: 12, Out: 4}, {Hits: 1, Misses: 3, In: 12, Out: 4}}},
		{"0|0", "0w 4w 0w 4", [2][]int64{nil, nil}, [4]impl.Traffic{{Misses: 4, In: 4, Out: 3}, {Misses: 4, In: 16, Out: 3}, {Misses: 4, In: 4, Out: 3}, {Misses: 4, In: 16, Out: 12}}},
		{"0|0", "0w 4w 0w", [2][]int64{nil, {0}}, [4]impl.Traffic{{Misses: 3, Out: 3}, {Misses: 3, In: 12, Out: 3}, {Misses: 3, Out: 3}, {Misses: 3, In: 12, Out: 8, Flushed: 4}}},
		{"01/10|10", "8w 1w 3w 60w 2", [2][]int64{nil, {0, 15}}, [4]impl.Traffic{{Misses: 5, In: 4, Out: 4}, {Hits: 2, Misses: 3, In: 12, Out: 4}, {Misses: 5, In: 4, Out: 4}, {Hits: 2, Misses: 3, In: 12, Out: 4, Flushed: 8}}},
		{"01/10|10", "63 0 0w 63w 3w", [2][]int64{{0, 15}, {0, 15}}, [4]impl.Traffic{{Hits: 3, Misses: 2, In: 8, Out: 3}, {Hits: 3, Misses: 2, In: 8, Out: 3}, {Hits: 3, Misses: 2, In: 8, Flushed: 8}, {Hits: 3, Misses: 2, In: 8, Flushed: 8}}},
		{"120/021/012|012", "0w 4w 0", [2][]int64{nil, nil}, [4]impl.Traffic{{Misses: 3, In: 4, Out: 2}, {Misses: 3, In: 12, Out: 2}, {Misses: 3, In: 4, Out: 2}, {Misses: 3, In: 12, Out: 8}}},
	} {
		trace := traceWithText(x.trace)
		for i, c := range cachesOf(policyWithText(x.policy)) {
			expect(t, cacheText(c, trace), of(impl.TrafficOf(c, trace)), of(x.traffic[i], true))
			if c.Back {
				expect(t, cacheText(c, trace), of(impl.DirtyLines(c, trace)), of(x.dirty[i-2], true))
			} else {
				expect(t, cacheText(c, trace), of(impl.DirtyLines(c, trace)), of([]int64{}, true))
			}
		}
	}
}

// TestCacheValues: values, written down from the document, which go through each cache.
func TestCacheValues(t *testing.T) {
	for _, p := range cachePolicies() {
		for _, c := range cachesOf(p) {
			example := traceWithText("5w 5")
			expect(t, cacheText(c, example), of(impl.CacheReads(c, example)), of([]int64{1}, true))
			ends := traceWithText("0w 3w 4w 63w 60 3 4 0 63")
			expect(t, cacheText(c, ends), of(impl.CacheReads(c, ends)), of([]int64{0, 2, 3, 1, 4}, true))
			expect(t, cacheText(c, ends), of(impl.CacheMemory(c, ends)), of(wordsWith(map[int64]int64{0: 1, 3: 2, 4: 3, 63: 4}), true))
			around := traceWithText("1w 2 9 1w 1 2w 17w 1 2")
			expect(t, cacheText(c, around), of(impl.CacheReads(c, around)), of([]int64{0, 0, 4, 4, 6}, true))
			expect(t, cacheText(c, around), of(impl.CacheMemory(c, around)), of(wordsWith(map[int64]int64{1: 4, 2: 6, 17: 7}), true))
			expect(t, cacheText(c, nil), of(impl.CacheReads(c, nil)), of([]int64{}, true))
			expect(t, cacheText(c, nil), of(impl.CacheMemory(c, nil)), of(repeated(0, 64), true))
			expect(t, cacheText(c, nil), of(impl.DirtyLines(c, nil)), of([]int64{}, true))
			expect(t, cacheText(c, nil), of(impl.TrafficOf(c, nil)), of(impl.Traffic{}, true))
		}
	}
}

// TestCaches: caches do what the document tells, and with each of them reads and words are those without one.
func TestCaches(t *testing.T) {
	eachCache(func(c impl.Cache, trace []impl.Access) {
		what := cacheText(c, trace)
		reads, words := plainWords(trace)
		expect(t, what, of(impl.CacheReads(c, trace)), of(reads, true))
		expect(t, what, of(impl.CacheMemory(c, trace)), of(words, true))
		m := runToldCache(c, trace)
		expect(t, what, of(impl.DirtyLines(c, trace)), of(m.dirtyLines(), true))
		m.flush()
		expect(t, what, of(impl.TrafficOf(c, trace)), of(m.traffic, true))
		expect(t, what+" as told", of(m.reads, m.memory), of(reads, words))
	})
}

// TestTrafficBalances: what the numbers of words have to do with accesses, hits, dirty lines and each other.
func TestTrafficBalances(t *testing.T) {
	eachCache(func(c impl.Cache, trace []impl.Access) {
		what := cacheText(c, trace)
		traffic, _ := impl.TrafficOf(c, trace)
		dirty, _ := impl.DirtyLines(c, trace)
		var lines []int64
		var writes, fills, sent int64
		for k, x := range trace {
			lines = append(lines, x.Address/impl.LineWords)
			writes += x.Kind
			before, _ := impl.TrafficOf(c, trace[:k])
			after, _ := impl.TrafficOf(c, trace[:k+1])
			isMiss := after.Misses > before.Misses
			if isMiss && (c.Allocate || x.Kind == impl.Read) {
				fills++
			}
			if x.Kind == impl.Write && (!c.Back || isMiss && !c.Allocate) {
				sent++
			}
		}
		expect(t, what, of(traffic.Hits+traffic.Misses, traffic.In, traffic.Flushed), of(len(trace), impl.LineWords*fills, impl.LineWords*len(dirty)))
		if !c.Back {
			expect(t, what, of(traffic.Out, dirty), of(writes, []int64{}))
		} else if rest := traffic.Out - sent; rest%impl.LineWords != 0 || rest < 0 || rest > impl.LineWords*fills {
			t.Errorf("%s: %v words out, %d of them alone", what, traffic.Out, sent)
		}
		if c.Allocate {
			misses, _ := impl.MissesOf(c.Policy, lines)
			_, contents, _ := impl.RunPolicy(c.Policy, lines)
			expect(t, what, of(traffic.Misses), of(misses))
			for _, line := range dirty {
				expect(t, what, of(slices.Contains(contents, line)), of(true))
			}
		}
	})
}

// TestNeverRead: a line that is written and never read goes out all the same.
func TestNeverRead(t *testing.T) {
	trace := traceWithText("20w*2 21w 0*57")
	for _, p := range knownPolicies() {
		for _, c := range cachesOf(p) {
			expect(t, cacheText(c, trace), of(impl.CacheMemory(c, trace)), of(wordsWith(map[int64]int64{20: 2, 21: 3}), true))
		}
	}
}

// takenPlace is a place in a buffer.
type takenPlace struct {
	line    int64
	written []int64
}

// drainsOf returns what drains, in order, and all words in the end, as the document tells it: each line that has a place is
// looked for in what has happened since it took the place.
func drainsOf(trace []impl.Access, places int) (order [][]int64, words []int64) {
	words = repeated(0, impl.MaxAddress)
	var taken []takenPlace
	drain := func(isDue func(i int, p takenPlace) bool) {
		var rest []takenPlace
		for i, p := range taken {
			if !isDue(i, p) {
				rest = append(rest, p)
				continue
			}
			addresses := map[int64]bool{}
			for _, k := range p.written {
				addresses[trace[k].Address] = true
				words[trace[k].Address] = k + 1
			}
			order = append(order, []int64{p.line, int64(len(addresses))})
		}
		taken = rest
	}
	for k, x := range trace {
		line := x.Address / 4
		if x.Kind == impl.Read {
			drain(func(_ int, p takenPlace) bool { return p.line == line })
			continue
		}
		isLine := func(p takenPlace) bool { return p.line == line }
		if !slices.ContainsFunc(taken, isLine) {
			drain(func(i int, _ takenPlace) bool { return i == 0 && len(taken) == places })
			taken = append(taken, takenPlace{line: line})
		}
		at := slices.IndexFunc(taken, isLine)
		taken[at].written = append(taken[at].written, int64(k))
	}
	drain(func(int, takenPlace) bool { return true })
	return order, words
}

func TestBufferExamples(t *testing.T) {
	for _, x := range []struct {
		trace  string
		places int64
		order  [][]int64
	}{
		{"", 1, nil},
		{"0 63", 1, nil},
		{"0w", 1, [][]int64{{0, 1}}},
		{"63w", 8, [][]int64{{15, 1}}},
		{"5w*60", 1, [][]int64{{1, 1}}},
		{"0w 3w", 1, [][]int64{{0, 2}}},
		{"3w 4w", 1, [][]int64{{0, 1}, {1, 1}}},
		{"4w 5w 6w 7w 5w", 2, [][]int64{{1, 4}}},
		{"0w 4w", 2, [][]int64{{0, 1}, {1, 1}}},
		{"4w 0w", 2, [][]int64{{1, 1}, {0, 1}}},
		{"4w 0w 8w", 2, [][]int64{{1, 1}, {0, 1}, {2, 1}}},
		{"4w 0w 5w 8w", 2, [][]int64{{1, 2}, {0, 1}, {2, 1}}},
		{"4w 0w 5w 1w 6w", 2, [][]int64{{1, 3}, {0, 2}}},
		{"4w 0w 8w 5w 1w", 2, [][]int64{{1, 1}, {0, 1}, {2, 1}, {1, 1}, {0, 1}}},
		{"0w 4w 8w 5 1w", 3, [][]int64{{1, 1}, {0, 2}, {2, 1}}},
		{"0w 4w 8w 4 12w 1w 5w", 3, [][]int64{{1, 1}, {0, 2}, {2, 1}, {3, 1}, {1, 1}}},
		{"0w 4w 8w 6 4w 16w", 3, [][]int64{{1, 1}, {0, 1}, {2, 1}, {1, 1}, {4, 1}}},
		{"0w 1", 1, [][]int64{{0, 1}}},
		{"0w 1 0w", 1, [][]int64{{0, 1}, {0, 1}}},
		{"0w*2 1w 2 0w 2w*2 3w", 1, [][]int64{{0, 2}, {0, 3}}},
		{"0w 4 1w", 1, [][]int64{{0, 2}}},
		{"0w 4w 8w 12w 16w 20w 24w 28w 1w", 8, [][]int64{{0, 2}, {1, 1}, {2, 1}, {3, 1}, {4, 1}, {5, 1}, {6, 1}, {7, 1}}},
		{"0w 4w 8w 12w 16w 20w 24w 28w 32w 1w", 8, [][]int64{{0, 1}, {1, 1}, {2, 1}, {3, 1}, {4, 1}, {5, 1}, {6, 1}, {7, 1}, {8, 1}, {0, 1}}},
	} {
		trace := traceWithText(x.trace)
		expect(t, fmt.Sprint(x.trace, " with places ", x.places), of(impl.BufferOrder(trace, x.places)), of(x.order, true))
	}
	words := wordsWith(map[int64]int64{4: 2, 3: 5, 0: 3, 63: 1})
	for places := int64(1); places <= impl.MaxBuffered; places++ {
		expect(t, fmt.Sprint("words with places ", places), of(impl.BufferMemory(traceWithText("63w 4w 0w 4 3w"), places)), of(words, true))
		expect(t, fmt.Sprint("no words with places ", places), of(impl.BufferMemory(nil, places)), of(repeated(0, 64), true))
	}
}

// TestBuffers: lines drain as the document tells, and words in the end are those without a buffer.
func TestBuffers(t *testing.T) {
	for _, trace := range append(cacheTraces(), shortTraces(4)...) {
		_, words := plainWords(trace)
		for places := 1; places <= impl.MaxBuffered; places++ {
			what := fmt.Sprint(trace, " with places ", places)
			order, told := drainsOf(trace, places)
			expect(t, what, of(impl.BufferOrder(trace, int64(places))), of(order, true))
			expect(t, what, of(impl.BufferMemory(trace, int64(places))), of(words, true))
			expect(t, what+" as told", of(told), of(words))
		}
	}
}

// TestLevelsInvalid: caches, traces, places, levels or uses that are none make all functions fail.
func TestLevelsInvalid(t *testing.T) {
	var none []int64
	expectCacheFailures := func(c impl.Cache, trace []impl.Access) {
		what := fmt.Sprint(c, trace)
		expect(t, what, of(impl.CacheReads(c, trace)), of(none, false))
		expect(t, what, of(impl.CacheMemory(c, trace)), of(none, false))
		expect(t, what, of(impl.DirtyLines(c, trace)), of(none, false))
		expect(t, what, of(impl.TrafficOf(c, trace)), of(impl.Traffic{}, false))
	}
	expectBufferFailures := func(trace []impl.Access, places int64) {
		what := fmt.Sprint(trace, places)
		expect(t, what, of(impl.BufferOrder(trace, places)), of([][]int64(nil), false))
		expect(t, what, of(impl.BufferMemory(trace, places)), of(none, false))
	}
	for _, p := range badPolicies() {
		for _, c := range cachesOf(p) {
			expectCacheFailures(c, nil)
			expectCacheFailures(c, traceWithText("5w 5"))
		}
	}
	for _, trace := range badTraces() {
		expect(t, fmt.Sprint(trace), of(impl.PlainReads(trace)), of(none, false))
		expect(t, fmt.Sprint(trace), of(impl.PlainMemory(trace)), of(none, false))
		for _, c := range cachesOf(policyWithText("01/10|10")) {
			expectCacheFailures(c, trace)
		}
		for places := int64(1); places <= impl.MaxBuffered; places++ {
			expectBufferFailures(trace, places)
		}
	}
	for _, places := range []int64{-1, 0, impl.MaxBuffered + 1, -8, 1 << 32, 1<<32 + 1, math.MinInt64, math.MaxInt64} {
		expectBufferFailures(nil, places)
		expectBufferFailures(traceWithText("5w 5"), places)
	}
	lru := policyWithText("01/10|10")
	for _, p := range badPolicies() {
		for mode := range int64(3) {
			expectLevelFailures(t, impl.Levels{First: p, Second: lru, Mode: mode}, []int64{1, 2, 1})
			expectLevelFailures(t, impl.Levels{First: lru, Second: p, Mode: mode}, nil)
			expectLevelFailures(t, impl.Levels{First: p, Second: p, Mode: mode}, []int64{1})
		}
	}
	for _, mode := range []int64{-1, 3, 4, 1 << 32, 1<<32 + 1, math.MinInt64, math.MaxInt64} {
		expectLevelFailures(t, impl.Levels{First: lru, Second: lru, Mode: mode}, nil)
		expectLevelFailures(t, impl.Levels{First: lru, Second: lru, Mode: mode}, []int64{0, 1, 0, 2})
	}
	for _, uses := range badUses() {
		for mode := range int64(3) {
			l := impl.Levels{First: lru, Second: lru, Mode: mode}
			expect(t, fmt.Sprint(l), of(impl.ValidLevels(l)), of(true))
			expectRunFailures(t, l, uses)
		}
	}
}

// expectLevelFailures fails the test unless the levels are not valid.
func expectLevelFailures(t *testing.T, l impl.Levels, uses []int64) {
	t.Helper()
	expect(t, fmt.Sprint(l), of(impl.ValidLevels(l)), of(false))
	expectRunFailures(t, l, uses)
}

// expectRunFailures fails the test unless all functions with levels and uses fail.
func expectRunFailures(t *testing.T, l impl.Levels, uses []int64) {
	t.Helper()
	what, none := fmt.Sprint(l, uses), []int64(nil)
	expect(t, what, of(impl.RunLevels(l, uses)), of(none, false))
	expect(t, what, of(impl.LevelContents(l, uses)), of(none, none, false))
	expect(t, what, of(impl.BackInvalidations(l, uses)), of(0, false))
}

// levelsText returns a short text of levels and uses.
func levelsText(l impl.Levels, uses []int64) string {
	return fmt.Sprint(textOf(l.First), " and ", textOf(l.Second), " with the mode ", l.Mode, " ", uses)
}

// levelPairs are levels of each mode with policies of all ways, with second ones that are smaller, as large, or larger.
func levelPairs() []impl.Levels {
	var pairs []impl.Levels
	policies := cachePolicies()
	for i, p := range policies {
		for j, q := range policies {
			if (i*7+j*3)%11 == 0 {
				pairs = append(pairs, impl.Levels{First: p, Second: q, Mode: int64(i+j) % 3})
			}
		}
	}
	for _, names := range [][2]string{{"0|0", "0|0"}, {"0|0", "01/10|10"}, {"01/10|10", "0|0"}, {"01/10|10", "01/10|10"}, {"012/102/201|201", "01/01|10"}, {"01/10|10", "012/012/012|201"}} {
		for mode := range int64(3) {
			pairs = append(pairs, impl.Levels{First: policyWithText(names[0]), Second: policyWithText(names[1]), Mode: mode})
		}
	}
	return pairs
}

// levelUses are uses for levels.
func levelUses() [][]int64 {
	lists := [][]int64{nil, {0}, {63}, repeated(63, impl.MaxTrace), {0, 1, 0, 2, 0}, {0, 1, 2, 0, 1, 2, 0, 3, 0}, append(countedUp(30), countedUp(30)...)}
	for seed := range uint64(6) {
		lists = append(lists, drawn(seed, impl.MaxTrace, int64(2+2*seed)), drawn(seed+30, 25, int64(3+seed)))
	}
	return append(lists, drawn(99, impl.MaxTrace, impl.MaxAddress))
}

// without returns contents in which an address is replaced by -1, and whether it was there.
func without(contents []int64, address int64) ([]int64, bool) {
	at := slices.Index(contents, address)
	if at < 0 || address == -1 {
		return contents, false
	}
	taken := slices.Clone(contents)
	taken[at] = -1
	return taken, true
}

// toldLevels returns what the document tells about levels: where each address was, the contents, and the back invalidations.
func toldLevels(l impl.Levels, uses []int64) (found, first, second []int64, backs int64) {
	first, second = emptyOf(l.First), emptyOf(l.Second)
	for _, a := range uses {
		isFirst, isSecond := slices.Contains(first, a), slices.Contains(second, a)
		switch {
		case isFirst:
			found = append(found, 1)
			first, _ = stepOf(l.First, first, a)
			continue
		case isSecond:
			found = append(found, 2)
		default:
			found = append(found, 3)
		}
		if l.Mode == impl.ModeExclusive {
			second, _ = without(second, a)
			oldest := first[len(first)-1]
			first, _ = stepOf(l.First, first, a)
			if oldest != -1 {
				second, _ = stepOf(l.Second, second, oldest)
			}
			continue
		}
		oldest := second[len(second)-1]
		second, _ = stepOf(l.Second, second, a)
		if l.Mode == impl.ModeInclusive && !isSecond {
			taken, isBack := without(first, oldest)
			if isBack {
				backs++
			}
			first = taken
		}
		first, _ = stepOf(l.First, first, a)
	}
	return found, first, second, backs
}

func TestValidLevels(t *testing.T) {
	for _, l := range levelPairs() {
		expect(t, levelsText(l, nil), of(impl.ValidLevels(l)), of(true))
	}
	expect(t, "nothing", of(impl.ValidLevels(impl.Levels{})), of(false))
}

func TestLevelExamples(t *testing.T) {
	one, two, three := "0|0", "01/10|10", "012/102/201|201"
	for _, x := range []struct {
		what                 string
		mode                 int64
		firstText, secText   string
		uses                 []int64
		found, first, second []int64
		backs                int64
	}{
		{"no uses", 0, one, two, nil, nil, []int64{-1}, []int64{-1, -1}, 0},
		{"in both, in the second alone, and in none", 0, one, two, []int64{0, 1, 0, 0, 2, 1}, []int64{3, 3, 2, 1, 3, 3}, []int64{1}, []int64{1, 2}, 0},
		{"a hit in the first level leaves the second one", 0, two, two, []int64{0, 1, 0, 0, 2}, []int64{3, 3, 1, 1, 3}, []int64{2, 0}, []int64{2, 1}, 0},
		{"the same inclusive", 1, two, two, []int64{0, 1, 0, 0, 2}, []int64{3, 3, 1, 1, 3}, []int64{2, -1}, []int64{2, 1}, 1},
		{"the same exclusive", 2, two, two, []int64{0, 1, 0, 0, 2}, []int64{3, 3, 1, 1, 3}, []int64{2, 0}, []int64{1, -1}, 0},
		{"a smaller second level", 0, two, one, []int64{0, 1, 0}, []int64{3, 3, 1}, []int64{0, 1}, []int64{1}, 0},
		{"a smaller second level inclusive", 1, two, one, []int64{0, 1, 0}, []int64{3, 3, 3}, []int64{0, -1}, []int64{0}, 2},
		{"a smaller second level exclusive", 2, two, one, []int64{0, 1, 2, 0}, []int64{3, 3, 3, 2}, []int64{0, 2}, []int64{1}, 0},
		{"a way that is made empty and taken", 1, one, one, []int64{0, 1}, []int64{3, 3}, []int64{1}, []int64{1}, 1},
		{"a way that is made empty and not taken", 1, two, two, []int64{0, 1, 0, 2, 1}, []int64{3, 3, 1, 3, 2}, []int64{1, 2}, []int64{1, 2}, 1},
		{"replaced in the second level and not in the first one", 1, one, two, []int64{0, 1, 2}, []int64{3, 3, 3}, []int64{2}, []int64{2, 1}, 0},
		{"a second level without addresses", 1, one, three, []int64{0, 1, 2}, []int64{3, 3, 3}, []int64{2}, []int64{2, 1, 0}, 0},
		{"replaced goes back", 2, one, one, []int64{0, 1, 0}, []int64{3, 3, 2}, []int64{0}, []int64{1}, 0},
		{"replaced pushes another one out", 2, one, one, []int64{0, 1, 2, 0}, []int64{3, 3, 3, 3}, []int64{0}, []int64{2}, 0},
		{"the oldest is replaced beside an empty way", 2, one, two, []int64{0, 1, 2, 1, 0}, []int64{3, 3, 3, 2, 3}, []int64{0}, []int64{1, 2}, 0},
		{"nothing is replaced", 2, two, two, []int64{0, 1, 1, 0}, []int64{3, 3, 1, 1}, []int64{0, 1}, []int64{-1, -1}, 0},
	} {
		l := impl.Levels{First: policyWithText(x.firstText), Second: policyWithText(x.secText), Mode: x.mode}
		expect(t, x.what, of(impl.RunLevels(l, x.uses)), of(x.found, true))
		expect(t, x.what, of(impl.LevelContents(l, x.uses)), of(x.first, x.second, true))
		expect(t, x.what, of(impl.BackInvalidations(l, x.uses)), of(x.backs, true))
	}
}

// TestLevels: levels do what the document tells.
func TestLevels(t *testing.T) {
	backs := map[int64]int64{}
	for _, l := range levelPairs() {
		for _, uses := range levelUses() {
			what := levelsText(l, uses)
			found, first, second, back := toldLevels(l, uses)
			expect(t, what, of(impl.RunLevels(l, uses)), of(found, true))
			expect(t, what, of(impl.LevelContents(l, uses)), of(first, second, true))
			expect(t, what, of(impl.BackInvalidations(l, uses)), of(back, true))
			backs[l.Mode] += back
		}
	}
	expect(t, "other modes", of(backs[impl.ModeFree], backs[impl.ModeExclusive], backs[impl.ModeInclusive] > 0), of(0, 0, true))
}

// TestInclusion: behind each use, all addresses of the first level are in the second one with ModeInclusive, and none is with
// ModeExclusive; and where the address of a use was is where the contents before have it.
func TestInclusion(t *testing.T) {
	for _, l := range levelPairs() {
		for i, uses := range levelUses() {
			if i%3 == 0 && len(uses) > 30 {
				continue
			}
			found, _ := impl.RunLevels(l, uses)
			for k := range uses {
				first, second, _ := impl.LevelContents(l, uses[:k])
				want := 3
				if slices.Contains(first, uses[k]) {
					want = 1
				} else if slices.Contains(second, uses[k]) {
					want = 2
				}
				expect(t, levelsText(l, uses[:k+1]), of(found[k]), of(want))
				for _, a := range first {
					isSecond := slices.Contains(second, a)
					if a != -1 && (l.Mode == impl.ModeInclusive && !isSecond || l.Mode == impl.ModeExclusive && isSecond) {
						t.Errorf("%s: the contents are %v and %v", levelsText(l, uses[:k]), first, second)
					}
				}
			}
		}
	}
}

// TestFreeLevels: with ModeFree the first level is as it is alone, and the second one as it is with the misses of the first.
func TestFreeLevels(t *testing.T) {
	for _, l := range levelPairs() {
		l.Mode = impl.ModeFree
		for _, uses := range levelUses() {
			hits, _, first := runOf(l.First, uses)
			var missed []int64
			for i, hit := range hits {
				if hit == 0 {
					missed = append(missed, uses[i])
				}
			}
			secondHits, _, second := runOf(l.Second, missed)
			var found []int64
			for _, hit := range hits {
				if hit == 1 {
					found = append(found, 1)
				} else {
					found, secondHits = append(found, 3-secondHits[0]), secondHits[1:]
				}
			}
			expect(t, levelsText(l, uses), of(impl.RunLevels(l, uses)), of(found, true))
			expect(t, levelsText(l, uses), of(impl.LevelContents(l, uses)), of(first, second, true))
		}
	}
}

// TestExclusiveLru: an LRU memory with another one of one way behind it keeps what one with one way more keeps.
func TestExclusiveLru(t *testing.T) {
	one, _ := impl.LruPolicy(1)
	for ways := int64(1); ways < impl.MaxWays; ways++ {
		small, _ := impl.LruPolicy(ways)
		large, _ := impl.LruPolicy(ways + 1)
		l := impl.Levels{First: small, Second: one, Mode: impl.ModeExclusive}
		for _, uses := range levelUses() {
			hits, _, end := runOf(large, uses)
			found, _ := impl.RunLevels(l, uses)
			first, second, _ := impl.LevelContents(l, uses)
			expect(t, levelsText(l, uses), of(append(first, second...)), of(end))
			for i, hit := range hits {
				expect(t, levelsText(l, uses[:i+1]), of(found[i] < 3), of(hit == 1))
			}
		}
	}
}
