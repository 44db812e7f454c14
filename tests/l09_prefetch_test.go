package tests

// Promise 10 (chapter 9): outcomes and guesses are counted exactly, and a steady stride is helped from the fourth load on.

import (
	"fmt"
	"math"
	"slices"
	"strconv"
	"strings"
	"testing"

	"loop.example/g01112/impl"
)

// loadsFrom returns loads with a word for each of them: the letter of the stream, a for the first one, and the line.
func loadsFrom(s string) []impl.Load {
	var loads []impl.Load
	for _, word := range strings.Fields(s) {
		line, err := strconv.ParseInt(word[1:], 10, 64)
		if err != nil {
			panic("not the text of loads: " + s)
		}
		loads = append(loads, impl.Load{Stream: int64(word[0] - 'a'), Line: line})
	}
	return loads
}

// sameLoads returns count loads of the same line.
func sameLoads(stream, line int64, count int) []impl.Load {
	return slices.Repeat([]impl.Load{{Stream: stream, Line: line}}, count)
}

// steadyLoads returns at most count loads with a stride, as long as they are lines.
func steadyLoads(stream, line, stride int64, count int) []impl.Load {
	var loads []impl.Load
	for ; len(loads) < count && line >= 0 && line <= 63; line += stride {
		loads = append(loads, impl.Load{Stream: stream, Line: line})
	}
	return loads
}

// prefetcher returns the prefetcher with these fields.
func prefetcher(kind, degree, delay, ways int64) impl.Prefetcher {
	return impl.Prefetcher{Kind: kind, Degree: degree, Delay: delay, Ways: ways}
}

// withNext returns a prefetcher that guesses the lines beside those that are loaded.
func withNext(degree, delay, ways int64) impl.Prefetcher {
	return prefetcher(0, degree, delay, ways)
}

// withStride returns a prefetcher that guesses by strides.
func withStride(degree, delay, ways int64) impl.Prefetcher {
	return prefetcher(1, degree, delay, ways)
}

// withPair returns a prefetcher that guesses which line follows.
func withPair(degree, delay, ways int64) impl.Prefetcher {
	return prefetcher(2, degree, delay, ways)
}

// allPrefetchers are all valid prefetchers.
func allPrefetchers() []impl.Prefetcher {
	var all []impl.Prefetcher
	for kind := range int64(3) {
		for degree := range int64(5) {
			for delay := range int64(9) {
				for ways := int64(1); ways <= 6; ways++ {
					all = append(all, prefetcher(kind, degree, delay, ways))
				}
			}
		}
	}
	return all
}

// badPrefetchers are prefetchers of which one field is wrong, and at the end those with wrong fields alone.
func badPrefetchers() []impl.Prefetcher {
	var bad []impl.Prefetcher
	far := []int64{1 << 32, 1<<32 + 1, math.MinInt64, math.MaxInt64}
	for _, n := range append(far, -1, 3, -2, 4) {
		bad = append(bad, prefetcher(n, 1, 0, 2), prefetcher(n, 0, 8, 6))
	}
	for _, n := range append(far, -1, 5, -4, 6) {
		bad = append(bad, prefetcher(0, n, 0, 2), prefetcher(1, n, 0, 2), prefetcher(2, n, 8, 6))
	}
	for _, n := range append(far, -1, 9, -8, 10) {
		bad = append(bad, prefetcher(0, 0, n, 1), prefetcher(1, 1, n, 2), prefetcher(2, 4, n, 6))
	}
	for _, n := range append(far, -1, 0, 7, 8) {
		bad = append(bad, prefetcher(0, 0, 0, n), prefetcher(1, 1, 0, n), prefetcher(2, 4, 8, n))
	}
	return append(bad, impl.Prefetcher{}, prefetcher(-1, 5, 9, 0))
}

// badLoads are loads of which one is wrong, or which are too many.
func badLoads() [][]impl.Load {
	bad := [][]impl.Load{sameLoads(0, 0, 61), sameLoads(3, 63, 62), drawnLoads(1)[:61]}
	for _, n := range []int64{-1, 64, -2, 65, 1 << 32, 1<<32 + 1, math.MinInt64, math.MaxInt64} {
		for _, at := range []int{0, 2, 3} {
			loads := loadsFrom("a0 a2 b4 a6")
			loads[at].Line = n
			bad = append(bad, loads)
		}
		bad = append(bad, sameLoads(0, n, 1), append(sameLoads(0, 0, 59), impl.Load{Line: n}))
	}
	for _, n := range []int64{-1, 4, -2, 5, 63, 1 << 32, 1<<32 + 1, math.MinInt64, math.MaxInt64} {
		for _, at := range []int{0, 1, 3} {
			loads := loadsFrom("a0 a2 b4 a6")
			loads[at].Stream = n
			bad = append(bad, loads)
		}
		bad = append(bad, sameLoads(n, 0, 1), append(sameLoads(0, 0, 59), impl.Load{Stream: n}))
	}
	return bad
}

// drawnLoads returns 61 loads, which is one too many, in which streams go on with strides, go back to lines and jump.
func drawnLoads(seed uint64) []impl.Load {
	below := []int64{6, 10, 64}[seed%3]
	streams := 1 + int64(seed/3%4)
	var lines, strides [4]int64
	var loads []impl.Load
	for _, n := range drawn(seed, 61, 1<<40) {
		stream := n % streams
		switch n >> 8 % 8 {
		case 0:
			strides[stream] = n>>16%7 - 3
		case 1, 2:
			lines[stream] = n >> 24 % below
		}
		lines[stream] = (lines[stream] + strides[stream] + below) % below
		loads = append(loads, impl.Load{Stream: stream, Line: lines[stream]})
	}
	return loads
}

// someLoads are valid loads of several kinds.
func someLoads() [][]impl.Load {
	some := [][]impl.Load{nil, sameLoads(0, 5, 60), steadyLoads(0, 0, 1, 60), steadyLoads(3, 63, -1, 60), steadyLoads(1, 2, 5, 60), steadyLoads(2, 60, -7, 60)}
	for seed := range uint64(24) {
		some = append(some, drawnLoads(seed)[:60], drawnLoads(seed + 100)[:5+seed])
	}
	some = append(some, slices.Repeat(loadsFrom("a1 a2 a3 b2"), 15), slices.Repeat(loadsFrom("a1 a2 a1 a3 a9"), 12), slices.Repeat(loadsFrom("a0 b63 a7 b56 a14 b49"), 10))
	return some
}

// shortLoads are all loads of few streams and lines up to a length.
func shortLoads(length int) [][]impl.Load {
	var all [][]impl.Load
	for _, list := range listsUpTo(length, 0, 1, 2, 3, 100, 102) {
		var loads []impl.Load
		for _, n := range list {
			loads = append(loads, impl.Load{Stream: n / 100, Line: n % 100})
		}
		all = append(all, loads)
	}
	return all
}

// linesOf returns the lines of the loads of a stream.
func linesOf(loads []impl.Load, stream int64) []int64 {
	var lines []int64
	for _, x := range loads {
		if x.Stream == stream {
			lines = append(lines, x.Line)
		}
	}
	return lines
}

// toldStride returns what the document tells about the stride after the last one of some loads.
func toldStride(loads []impl.Load) int64 {
	lines := linesOf(loads, loads[len(loads)-1].Stream)
	n := len(lines)
	if n < 3 || lines[n-1]-lines[n-2] != lines[n-2]-lines[n-3] {
		return 0
	}
	return lines[n-1] - lines[n-2]
}

// toldFollower returns the line that has followed a line behind its latest such place among the lines of a stream.
func toldFollower(lines []int64, line int64) (int64, bool) {
	for i := len(lines) - 2; i >= 0; i-- {
		if lines[i] == line {
			return lines[i+1], true
		}
	}
	return 0, false
}

// toldGuesses returns what the document tells about the guesses after the last one of some loads.
func toldGuesses(f impl.Prefetcher, loads []impl.Load) []int64 {
	var guesses []int64
	x := loads[len(loads)-1]
	add := func(line int64) {
		if line >= 0 && line <= 63 {
			guesses = append(guesses, line)
		}
	}
	switch f.Kind {
	case 0:
		for i := int64(1); i <= f.Degree; i++ {
			add(x.Line + i)
		}
	case 1:
		for i := int64(1); i <= f.Degree && toldStride(loads) != 0; i++ {
			add(x.Line + i*toldStride(loads))
		}
	case 2:
		lines := linesOf(loads, x.Stream)
		line, ok := toldFollower(lines, x.Line)
		for ok && int64(len(guesses)) < f.Degree && line != x.Line && !slices.Contains(guesses, line) {
			guesses = append(guesses, line)
			line, ok = toldFollower(lines, line)
		}
	}
	return guesses
}

// What has become of a line that has been issued.
const (
	isPending = "pending"
	isHere    = "here"
	isUsed    = "used"
	isLate    = "late"
	isUseless = "useless"
)

// toldIssue is a line that has been issued, with what has become of it.
type toldIssue struct {
	line int64
	due  int
	fate string
}

// toldRun is a fast memory with the line that was used last in front, and all lines that have been issued.
type toldRun struct {
	ways     int
	lines    []int64
	issues   []toldIssue
	outcomes []int64
}

// become gives a line that was issued, and of which one thing has become, another fate, and reports whether there is one.
func (m *toldRun) become(line int64, from, to string) bool {
	for i, x := range m.issues {
		if x.line == line && x.fate == from {
			m.issues[i].fate = to
			return true
		}
	}
	return false
}

// step lets a line be used.
func (m *toldRun) step(line int64) {
	m.lines = append([]int64{line}, slices.DeleteFunc(m.lines, func(n int64) bool { return n == line })...)
	if len(m.lines) > m.ways {
		m.become(m.lines[m.ways], isHere, isUseless)
		m.lines = m.lines[:m.ways]
	}
}

// runTold does what the document tells about running.
func runTold(f impl.Prefetcher, loads []impl.Load) *toldRun {
	m := &toldRun{ways: int(f.Ways)}
	for k, x := range loads {
		for i := range m.issues {
			if m.issues[i].fate == isPending && m.issues[i].due <= k {
				m.step(m.issues[i].line)
				m.issues[i].fate = isHere
			}
		}
		outcome := int64(0)
		if slices.Contains(m.lines, x.Line) {
			outcome = 1
			if m.become(x.Line, isHere, isUsed) {
				outcome = 2
			}
		} else if m.become(x.Line, isPending, isLate) {
			outcome = 3
		}
		m.outcomes = append(m.outcomes, outcome)
		m.step(x.Line)
		for _, line := range toldGuesses(f, loads[:k+1]) {
			isKnown := slices.Contains(m.lines, line)
			for _, y := range m.issues {
				isKnown = isKnown || y.line == line && y.fate == isPending
			}
			if !isKnown {
				m.issues = append(m.issues, toldIssue{line, k + 1 + int(f.Delay), isPending})
			}
		}
	}
	return m
}

// tally returns the numbers of outcomes and guesses.
func (m *toldRun) tally() impl.Tally {
	var counts [4]int64
	for _, outcome := range m.outcomes {
		counts[outcome]++
	}
	tally := impl.Tally{Misses: counts[0], Hits: counts[1], Helped: counts[2], Late: counts[3], Issued: int64(len(m.issues))}
	for _, x := range m.issues {
		if x.fate != isUsed && x.fate != isLate {
			tally.Useless++
		}
	}
	return tally
}

// ratioOrNone returns a ratio in lowest terms, or what a failure returns if the second number is 0.
func ratioOrNone(a, b int64) []any {
	if b == 0 {
		return of(0, 0, false)
	}
	d := commonDivisor(a, b)
	return of(a/d, b/d, true)
}

// outcomesWith returns outcomes with a letter for each of them: m for a miss, h for a hit, p for a helped load, l for a late one.
func outcomesWith(letters string) []int64 {
	var outcomes []int64
	for i := range len(letters) {
		outcomes = append(outcomes, int64(strings.IndexByte("mhpl", letters[i])))
	}
	return outcomes
}

// expectRun fails the test unless a run has these outcomes, as letters, and issues so many lines, some of which are useless.
func expectRun(t *testing.T, what string, f impl.Prefetcher, loads []impl.Load, letters string, issued, useless int64) {
	t.Helper()
	what = fmt.Sprint(what, ": ", f, loads)
	count := func(letter string) int64 { return int64(strings.Count(letters, letter)) }
	tally := impl.Tally{Misses: count("m"), Hits: count("h"), Helped: count("p"), Late: count("l"), Issued: issued, Useless: useless}
	expect(t, what, of(impl.OutcomesOf(f, loads)), of(outcomesWith(letters), true))
	expect(t, what, of(impl.TallyOf(f, loads)), of(tally, true))
	expect(t, what, of(impl.CoverageOf(f, loads)), ratioOrNone(tally.Helped, int64(len(loads))-tally.Hits))
	expect(t, what, of(impl.AccuracyOf(f, loads)), ratioOrNone(issued-useless, issued))
}

func TestPrefetchLimits(t *testing.T) {
	expect(t, "limits", of(impl.MaxLoads, impl.Streams, impl.MaxDegree, impl.MaxDelay), of(60, 4, 4, 8))
	expect(t, "kinds", of(impl.KindNext, impl.KindStride, impl.KindPair), of(0, 1, 2))
	expect(t, "outcomes", of(impl.LoadMiss, impl.LoadHit, impl.LoadHelped, impl.LoadLate), of(0, 1, 2, 3))
}

func TestValidLoads(t *testing.T) {
	valid := append(someLoads(), nil, []impl.Load{}, sameLoads(0, 0, 59), sameLoads(0, 0, 60), sameLoads(3, 63, 60), loadsFrom("a0"), loadsFrom("a63"), loadsFrom("d0"), loadsFrom("d63"), loadsFrom("b16 c32"))
	for _, loads := range valid {
		expect(t, fmt.Sprint(loads), of(impl.ValidLoads(loads)), of(true))
	}
	for _, loads := range badLoads() {
		expect(t, fmt.Sprint(loads), of(impl.ValidLoads(loads)), of(false))
	}
}

func TestValidPrefetcher(t *testing.T) {
	for _, f := range allPrefetchers() {
		expect(t, fmt.Sprint(f), of(impl.ValidPrefetcher(f)), of(true))
	}
	for _, f := range badPrefetchers() {
		expect(t, fmt.Sprint(f), of(impl.ValidPrefetcher(f)), of(false))
	}
}

func TestStridesOf(t *testing.T) {
	for _, x := range []struct {
		what, loads string
		strides     []int64
	}{
		{"no loads", "", nil},
		{"one load", "a5", []int64{0}},
		{"two loads", "a5 a7", []int64{0, 0}},
		{"three loads", "a5 a7 a9", []int64{0, 0, 2}},
		{"three loads from the line 0 on", "a0 a1 a2", []int64{0, 0, 1}},
		{"two loads that go on from 0", "a3 a6", []int64{0, 0}},
		{"one load that would go on from 0 and 0", "a0", []int64{0}},
		{"a stride of 0", "a5 a5 a5 a5", []int64{0, 0, 0, 0}},
		{"a negative stride", "a9 a6 a3 a0", []int64{0, 0, -3, -3}},
		{"the greatest strides", "a0 a31 a62 d63 d32 d1", []int64{0, 0, 31, 0, 0, -31}},
		{"a stride that changes", "a0 a2 a4 a7 a10 a13 a13 a13 a12 a11", []int64{0, 0, 2, 0, 3, 3, 0, 0, 0, -1}},
		{"back and forth", "a0 a2 a0 a2 a4", []int64{0, 0, 0, 0, 2}},
		{"a line twice at first", "a0 a0 a2 a4", []int64{0, 0, 0, 2}},
		{"twice as far", "a0 a2 a6", []int64{0, 0, 0}},
		{"other streams between", "a0 b9 a2 b7 c1 a4 b5 a6 c2 b3 c3", []int64{0, 0, 0, 0, 0, 2, -2, 2, 0, -2, 1}},
		{"a stride over streams that no stream has", "a0 b1 c2 d3 a4", []int64{0, 0, 0, 0, 0}},
		{"every stream", "a0 b0 c0 d0 a1 b2 c3 d4 a2 b4 c6 d8", []int64{0, 0, 0, 0, 0, 0, 0, 0, 1, 2, 3, 4}},
	} {
		expect(t, x.what, of(impl.StridesOf(loadsFrom(x.loads))), of(x.strides, true))
	}
	for _, loads := range append(someLoads(), shortLoads(4)...) {
		var strides []int64
		for k := range loads {
			strides = append(strides, toldStride(loads[:k+1]))
		}
		expect(t, fmt.Sprint(loads), of(impl.StridesOf(loads)), of(strides, true))
	}
}

func TestPairsOf(t *testing.T) {
	for _, x := range []struct {
		what, loads string
		stream      int64
		pairs       [][]int64
	}{
		{"no loads", "", 0, nil},
		{"a stream without loads", "a1 a2 c3 c4 d5 d6", 1, nil},
		{"one load", "b1 a2 b3", 0, nil},
		{"two loads", "a9 a3", 0, pairsOf(9, 3)},
		{"ascending order of the lines", "d63 d0 d7 d1 d62", 3, pairsOf(0, 7, 1, 62, 7, 1, 63, 0)},
		{"the latest follower", "a3 a7 a3 a9", 0, pairsOf(3, 9, 7, 3)},
		{"the last load has not been followed", "a3 a7 a9 a3", 0, pairsOf(3, 7, 7, 9, 9, 3)},
		{"a line by itself", "a5 a5", 0, pairsOf(5, 5)},
		{"a line by itself and then by another one", "a5 a5 a6", 0, pairsOf(5, 6)},
		{"a line by another one and then by itself", "a5 a6 a5 a5", 0, pairsOf(5, 5, 6, 5)},
		{"the line 0", "a0 a0 a1 a0", 0, pairsOf(0, 1, 1, 0)},
		{"the line 0 behind another one", "c4 c0", 2, pairsOf(4, 0)},
		{"other streams between", "a1 b5 a2 b6 c9 a3 b5", 0, pairsOf(1, 2, 2, 3)},
		{"another one of these streams", "a1 b5 a2 b6 c9 a3 b5", 1, pairsOf(5, 6, 6, 5)},
		{"the same lines in other streams", "a1 b1 a2 b3 c1 c4 d1 d5", 2, pairsOf(1, 4)},
	} {
		expect(t, x.what, of(impl.PairsOf(loadsFrom(x.loads), x.stream)), of(x.pairs, true))
	}
	for _, loads := range append(someLoads(), shortLoads(4)...) {
		for stream := range int64(4) {
			var pairs [][]int64
			for line := range int64(64) {
				if follower, ok := toldFollower(linesOf(loads, stream), line); ok {
					pairs = append(pairs, []int64{line, follower})
				}
			}
			expect(t, fmt.Sprint(stream, loads), of(impl.PairsOf(loads, stream)), of(pairs, true))
		}
	}
}

// guessLists returns a list of lists.
func guessLists(lists ...[]int64) [][]int64 {
	return lists
}

// TestGuessExamples: guesses are what the document tells. A chain of pairs comes back to no other line than that of the load,
// and has no other end, as the line behind the last load of a line is one with a later last load.
func TestGuessExamples(t *testing.T) {
	for _, x := range []struct {
		what, loads string
		f           impl.Prefetcher
		guesses     [][]int64
	}{
		{"no loads", "", withNext(4, 0, 1), nil},
		{"a degree of 0", "a5 a6 a7", withNext(0, 0, 1), guessLists(nil, nil, nil)},
		{"one line", "a5 a5 b6", withNext(1, 0, 1), guessLists([]int64{6}, []int64{6}, []int64{7})},
		{"four lines", "a0 c59", withNext(4, 0, 1), guessLists([]int64{1, 2, 3, 4}, []int64{60, 61, 62, 63})},
		{"lines that end", "a60 a62 a63 a61", withNext(4, 0, 1), guessLists([]int64{61, 62, 63}, []int64{63}, nil, []int64{62, 63})},
		{"the document's example", "a0 a2 a4 a6", withStride(1, 0, 2), guessLists(nil, nil, []int64{6}, []int64{8})},
		{"a stride without a degree", "a0 a2 a4 a6", withStride(0, 0, 2), guessLists(nil, nil, nil, nil)},
		{"a stride with the greatest degree", "a0 a2 a4 a6", withStride(4, 8, 6), guessLists(nil, nil, []int64{6, 8, 10, 12}, []int64{8, 10, 12, 14})},
		{"a negative stride", "a9 a8 a7", withStride(3, 0, 2), guessLists(nil, nil, []int64{6, 5, 4})},
		{"a negative stride to the line 0", "a9 a6 a3", withStride(4, 0, 2), guessLists(nil, nil, []int64{0})},
		{"a negative stride that leaves the lines", "a40 a20 a0", withStride(4, 0, 2), guessLists(nil, nil, nil)},
		{"a stride to the last line", "a57 a59 a61", withStride(4, 0, 2), guessLists(nil, nil, []int64{63})},
		{"a stride that leaves the lines", "a0 a31 a62", withStride(4, 0, 2), guessLists(nil, nil, nil)},
		{"a stride of 0", "a5 a5 a5 a5", withStride(4, 0, 2), guessLists(nil, nil, nil, nil)},
		{"a stride that changes", "a0 a2 a4 a7 a10 a13", withStride(2, 0, 2), guessLists(nil, nil, []int64{6, 8}, nil, []int64{13, 16}, []int64{16, 19})},
		{"strides of two streams", "a0 b9 a2 b7 a4 b5 c6", withStride(2, 0, 2), guessLists(nil, nil, nil, nil, []int64{6, 8}, []int64{3, 1}, nil)},
		{"a pair", "a3 a7 a3 a7 a3", withPair(1, 0, 1), guessLists(nil, nil, []int64{7}, []int64{3}, []int64{7})},
		{"a pair without a degree", "a3 a7 a3", withPair(0, 0, 1), guessLists(nil, nil, nil)},
		{"a chain that comes back to the line of the load", "a3 a7 a3 a9", withPair(2, 0, 1), guessLists(nil, nil, []int64{7}, nil)},
		{"a longer chain that comes back", "a1 a2 a3 a1", withPair(4, 0, 1), guessLists(nil, nil, nil, []int64{2, 3})},
		{"a chain as long as the degree", "a1 a2 a3 a4 a5 a1", withPair(4, 0, 1), guessLists(nil, nil, nil, nil, nil, []int64{2, 3, 4, 5})},
		{"a chain longer than the degree", "a1 a2 a3 a4 a5 a6 a1", withPair(4, 0, 1), guessLists(nil, nil, nil, nil, nil, nil, []int64{2, 3, 4, 5})},
		{"a chain longer than a small degree", "a1 a2 a3 a4 a1", withPair(2, 0, 1), guessLists(nil, nil, nil, nil, []int64{2, 3})},
		{"nothing has followed", "a1 a2 a9", withPair(4, 0, 1), guessLists(nil, nil, nil)},
		{"the latest follower", "a1 a2 a1 a3 a1", withPair(1, 0, 1), guessLists(nil, nil, []int64{2}, nil, []int64{3})},
		{"the latest follower, and what followed this one", "a1 a2 a1 a3 a1", withPair(4, 0, 1), guessLists(nil, nil, []int64{2}, nil, []int64{3})},
		{"the latest follower in a chain", "a1 a2 a4 a2 a5 a1", withPair(4, 0, 1), guessLists(nil, nil, nil, []int64{4}, nil, []int64{2, 5})},
		{"a chain that has come back to a line earlier", "a1 a2 a3 a2 a3 a1", withPair(4, 0, 1), guessLists(nil, nil, nil, []int64{3}, []int64{2}, []int64{2, 3})},
		{"a line by itself", "a5 a5 a5", withPair(4, 0, 1), guessLists(nil, nil, nil)},
		{"a line by itself and then by another one", "a5 a5 a6 a5", withPair(4, 0, 1), guessLists(nil, nil, nil, []int64{6})},
		{"a line by another one and then by itself", "a5 a6 a5 a5", withPair(4, 0, 1), guessLists(nil, nil, []int64{6}, nil)},
		{"a line in the chain that has been followed by itself", "a1 a5 a5 a6 a1", withPair(4, 0, 1), guessLists(nil, nil, nil, nil, []int64{5, 6})},
		{"the line 0", "a0 a63 a0", withPair(4, 0, 1), guessLists(nil, nil, []int64{63})},
		{"other streams between", "a1 b7 a2 b1 a1 b7", withPair(4, 0, 1), guessLists(nil, nil, nil, nil, []int64{2}, []int64{1})},
		{"pairs of another stream alone", "a1 a2 b1 b9 c1 d2", withPair(4, 0, 1), guessLists(nil, nil, nil, nil, nil, nil)},
	} {
		expect(t, x.what, of(impl.GuessesOf(x.f, loadsFrom(x.loads))), of(x.guesses, true))
	}
}

// TestGuesses: all guesses are what the document tells, and they are different lines other than that of the load.
func TestGuesses(t *testing.T) {
	for _, loads := range append(someLoads(), shortLoads(5)...) {
		for kind := range int64(3) {
			for degree := range int64(5) {
				f := prefetcher(kind, degree, degree*2, 1+degree)
				var told [][]int64
				for k := range loads {
					told = append(told, toldGuesses(f, loads[:k+1]))
				}
				guesses, ok := impl.GuessesOf(f, loads)
				expect(t, fmt.Sprint(f, loads), of(guesses, ok), of(told, true))
				for k, lines := range guesses {
					if int64(len(lines)) > degree || len(sortedSet(append([]int64{loads[k].Line}, lines...))) != len(lines)+1 {
						t.Errorf("%v guesses %v after %v", f, lines, loads[:k+1])
					}
				}
			}
		}
	}
}

// TestGuessesOfStreams: the guesses of a stream are what they are without the other streams, whatever Delay and Ways are, and
// guesses with a lesser degree are the first ones.
func TestGuessesOfStreams(t *testing.T) {
	for _, loads := range someLoads() {
		for kind := range int64(3) {
			all, _ := impl.GuessesOf(prefetcher(kind, 4, 0, 1), loads)
			for stream := range int64(4) {
				var alone []impl.Load
				var wanted [][]int64
				for k, x := range loads {
					if x.Stream == stream {
						alone = append(alone, impl.Load{Stream: 3 - stream, Line: x.Line})
						wanted = append(wanted, all[k])
					}
				}
				expect(t, fmt.Sprint(kind, stream, loads), of(impl.GuessesOf(prefetcher(kind, 4, 8, 6), alone)), of(wanted, true))
			}
			for degree := range int64(4) {
				var first [][]int64
				for _, lines := range all {
					first = append(first, lines[:min(int(degree), len(lines))])
				}
				expect(t, fmt.Sprint(kind, degree, loads), of(impl.GuessesOf(prefetcher(kind, degree, 0, 1), loads)), of(first, true))
			}
		}
	}
}

func TestRunExamples(t *testing.T) {
	for _, x := range []struct {
		what, loads     string
		f               impl.Prefetcher
		letters         string
		issued, useless int64
	}{
		{"the document's example", "a0 a2 a4 a6", withStride(1, 0, 2), "mmmp", 2, 1},
		{"the same with a delay", "a0 a2 a4 a6", withStride(1, 1, 2), "mmml", 2, 1},
		{"no loads", "", withNext(4, 0, 1), "", 0, 0},
		{"a line that is pending in the end", "a5", withNext(1, 0, 1), "m", 1, 1},
		{"no guess", "a63", withNext(4, 0, 1), "m", 0, 0},
		{"a degree of 0", "a1 a2 a1 a3 a2", withNext(0, 0, 2), "mmhmm", 0, 0},
		{"a degree of 0 with strides", "a1 a2 a3 a4 a3", withStride(0, 0, 2), "mmmmh", 0, 0},
		{"a degree of 0 with pairs", "a1 a2 a1 a2", withPair(0, 0, 1), "mmmm", 0, 0},
		{"one helped line after the other", "a5 a6 a7 a8", withNext(1, 0, 1), "mppp", 4, 1},
		{"a helped line that nobody else guesses", "a62 a63", withNext(1, 0, 1), "mp", 1, 0},
		{"a late line that nobody else guesses", "a62 a63", withNext(1, 1, 1), "ml", 1, 0},
		{"a helped line that is there in the end", "a5 a5", withNext(1, 0, 2), "mh", 1, 1},
		{"an arriving line takes the place of the one that is loaded then", "a5 a5", withNext(1, 0, 1), "mm", 2, 2},
		{"one load too early", "a5 a6", withNext(1, 1, 3), "ml", 2, 1},
		{"just in time", "a5 a0 a6", withNext(1, 1, 3), "mmp", 3, 2},
		{"two loads too early", "a5 a6", withNext(1, 2, 3), "ml", 2, 1},
		{"one load later than just in time", "a5 a0 a0 a6", withNext(1, 1, 4), "mmhp", 3, 2},
		{"the greatest delay, just in time", "a5 a60 a60 a60 a60 a60 a60 a60 a60 a6", withNext(1, 8, 6), "mmhhhhhhhp", 3, 2},
		{"the greatest delay, one load too early", "a5 a60 a60 a60 a60 a60 a60 a60 a6", withNext(1, 8, 6), "mmhhhhhhl", 3, 2},
		{"a delay longer than the loads that are left", "a5 a20 a5", withNext(2, 8, 6), "mmh", 4, 4},
		{"a guess of a line in the contents", "a6 a5", withNext(1, 0, 3), "mm", 1, 1},
		{"a guess of a line that is in the contents and helped", "a5 a5 a5 a6", withNext(1, 0, 3), "mhhp", 2, 1},
		{"a guess of a line that is pending, which is due as before", "a5 a5 a6", withNext(1, 1, 3), "mhp", 2, 1},
		{"a guess of another stream of a line that is pending", "a5 b5", withNext(1, 4, 2), "mh", 1, 1},
		{"several guesses, one in the contents and one pending", "a7 a8 a6 a5 a9", withNext(3, 2, 6), "mlmmp", 5, 3},
		{"a line issued again after it was late", "a5 a6 a5 a6", withNext(1, 2, 1), "mlml", 3, 1},
		{"a late line does not come a second time", "a5 a6 a20 a6", withNext(1, 1, 3), "mlmh", 3, 2},
		{"a line issued again after it was replaced", "a5 a5 a6", withNext(1, 0, 1), "mmp", 3, 2},
		{"a line issued again after it was used", "a5 a6 a5 a6", withNext(1, 0, 1), "mpmp", 4, 2},
		{"two lines due at a load, room for one, the first one loaded", "a5 a6", withNext(2, 0, 1), "mm", 4, 4},
		{"two lines due at a load, room for one, the last one loaded", "a5 a7", withNext(2, 0, 1), "mp", 4, 3},
		{"two lines due at a load, room for two, the oldest is loaded", "a5 a5", withNext(2, 0, 2), "mm", 3, 3},
		{"four lines due at a load, room for three", "a5 a6 a7", withNext(4, 0, 3), "mmp", 9, 8},
		{"a helped line that is used twice", "a5 a6 a6", withNext(1, 0, 2), "mph", 2, 1},
		{"a helped line that is used and then replaced", "a5 a6 a20 a30", withNext(1, 0, 2), "mpmm", 4, 3},
		{"a helped line that is replaced by a load", "a5 a9 a6", withNext(1, 0, 1), "mmm", 3, 3},
		{"a helped line that is replaced by an arriving one", "a5 a9 a6", withNext(1, 0, 2), "mmm", 3, 3},
		{"a helped line that is replaced by an arriving one, which is there in the end", "a5 a9 a9", withNext(1, 0, 2), "mmh", 2, 2},
		{"an arriving line is the youngest", "a5 a9 a6 a10", withNext(1, 0, 3), "mmpp", 4, 2},
		{"guesses after a hit", "b8 a4 a6 a8 a10", withStride(1, 0, 4), "mmmhp", 2, 1},
		{"a line that another stream needs", "a5 b6 a6", withNext(1, 0, 2), "mph", 2, 1},
		{"pairs", "a3 a7 a3 a7", withPair(1, 0, 1), "mmmp", 2, 1},
		{"pairs with a degree", "a1 a2 a3 a1 a2 a3", withPair(2, 0, 2), "mmmmpp", 3, 1},
		{"pairs that come too late", "a1 a2 a3 a1 a2 a3", withPair(1, 1, 1), "mmmmll", 3, 1},
		{"a load of a line without the mark of its last time", "a5 a6 a7 a6", withNext(1, 0, 3), "mpph", 3, 1},
	} {
		expectRun(t, x.what, x.f, loadsFrom(x.loads), x.letters, x.issued, x.useless)
	}
}

// expectTold fails the test unless a run is as it is told, and its numbers fit together.
func expectTold(t *testing.T, f impl.Prefetcher, loads []impl.Load) {
	t.Helper()
	m := runTold(f, loads)
	what, told := fmt.Sprint(f, loads), m.tally()
	x, ok := impl.TallyOf(f, loads)
	expect(t, what, of(impl.OutcomesOf(f, loads)), of(m.outcomes, true))
	expect(t, what, of(x, ok), of(told, true))
	expect(t, what, of(impl.CoverageOf(f, loads)), ratioOrNone(told.Helped, told.Misses+told.Helped+told.Late))
	expect(t, what, of(impl.AccuracyOf(f, loads)), ratioOrNone(told.Issued-told.Useless, told.Issued))
	if x.Misses+x.Hits+x.Helped+x.Late != int64(len(loads)) || x.Issued != x.Useless+x.Helped+x.Late || f.Degree == 0 && x.Issued != 0 {
		t.Errorf("%s: numbers that do not fit together: %v", what, x)
	}
}

// TestPrefetchRuns: all runs are as the document tells, those with long loads and those with all short ones.
func TestPrefetchRuns(t *testing.T) {
	for i, loads := range someLoads() {
		for j, f := range allPrefetchers() {
			if (i+j)%5 == 0 {
				expectTold(t, f, loads)
			}
		}
	}
	few := []impl.Prefetcher{withNext(1, 0, 1), withNext(2, 1, 2), withNext(2, 0, 3), withStride(1, 0, 1), withStride(1, 1, 2), withPair(1, 0, 1), withPair(2, 1, 1), withPair(2, 0, 2)}
	for _, loads := range shortLoads(5) {
		for _, f := range few {
			expectTold(t, f, loads)
		}
	}
}

// TestWithoutGuesses: without guesses, a run is that of LruPolicy, in which only misses and hits occur.
func TestWithoutGuesses(t *testing.T) {
	for _, loads := range someLoads() {
		uses := make([]int64, 0, len(loads))
		for _, x := range loads {
			uses = append(uses, x.Line)
		}
		for ways := int64(1); ways <= 6; ways++ {
			lru, _ := impl.LruPolicy(ways)
			hits, _, _ := impl.RunPolicy(lru, uses)
			misses, _ := impl.MissesOf(lru, uses)
			for kind := range int64(3) {
				f := prefetcher(kind, 0, ways, ways)
				what := fmt.Sprint(f, loads)
				expect(t, what, of(impl.OutcomesOf(f, loads)), of(hits, true))
				expect(t, what, of(impl.TallyOf(f, loads)), of(impl.Tally{Misses: misses, Hits: int64(len(uses)) - misses}, true))
				expect(t, what, of(impl.AccuracyOf(f, loads)), of(0, 0, false))
			}
		}
	}
}

// TestBeginnings: what happens at some loads does not depend on those behind them.
func TestBeginnings(t *testing.T) {
	for i, loads := range someLoads() {
		for kind := range int64(3) {
			f := prefetcher(kind, 1+int64(i)%4, int64(i)%3, 2+int64(i)%5)
			all, _ := impl.OutcomesOf(f, loads)
			guesses, _ := impl.GuessesOf(f, loads)
			strides, _ := impl.StridesOf(loads)
			for n := range loads {
				what := fmt.Sprint(f, loads[:n])
				expect(t, what, of(impl.OutcomesOf(f, loads[:n])), of(all[:n], true))
				expect(t, what, of(impl.GuessesOf(f, loads[:n])), of(guesses[:n], true))
				expect(t, what, of(impl.StridesOf(loads[:n])), of(strides[:n], true))
			}
		}
	}
}

// TestSteadyStride: a steady stride is helped from the fourth load on, if there is no delay and room for the guesses: from its
// arrival until its load, degree - 1 other lines are loaded, and as many others arrive.
func TestSteadyStride(t *testing.T) {
	for stride := int64(-31); stride <= 31; stride++ {
		for _, line := range []int64{0, 1, 30, 62, 63} {
			loads := steadyLoads(stride&3, line, stride, 60)
			for degree := int64(1); degree <= 3 && stride != 0; degree++ {
				for ways := 2*degree - 1; ways <= 6; ways++ {
					want := strings.Repeat("m", min(3, len(loads))) + strings.Repeat("p", max(0, len(loads)-3))
					expect(t, fmt.Sprint(degree, ways, loads), of(impl.OutcomesOf(withStride(degree, 0, ways), loads)), of(outcomesWith(want), true))
				}
			}
		}
	}
	loads := steadyLoads(0, 0, 1, 60)
	for _, f := range []impl.Prefetcher{withStride(2, 0, 2), withStride(3, 0, 4), withStride(4, 0, 6)} {
		tally, _ := impl.TallyOf(f, loads)
		if tally.Misses == 3 || tally.Late > 0 {
			t.Errorf("%v has room enough: %v", f, tally)
		}
	}
}

// TestSteadyStreams: steady strides of several streams are helped from the fourth load of each stream on.
func TestSteadyStreams(t *testing.T) {
	var loads []impl.Load
	var want string
	for i := range int64(14) {
		letter := "p"
		if i < 3 {
			letter = "m"
		}
		loads = append(loads, impl.Load{Stream: 0, Line: i}, impl.Load{Stream: 3, Line: 63 - 2*i}, impl.Load{Stream: 2, Line: 34 - i})
		want += strings.Repeat(letter, 3)
	}
	expect(t, "three streams", of(impl.OutcomesOf(withStride(1, 0, 6), loads)), of(outcomesWith(want), true))
}

// TestTooLate: with a delay, a steady stride is late as long as it was guessed too late, and for ever if the degree is not
// greater than the delay.
func TestTooLate(t *testing.T) {
	loads := steadyLoads(0, 1, 1, 60)
	for degree := int64(1); degree <= 4; degree++ {
		for delay := range int64(9) {
			// There is not room enough for 4 lines that arrive as early as they can.
			if degree == 4 && delay == 0 {
				continue
			}
			late := 57
			if degree > delay {
				late = int(delay)
			}
			want := "mmm" + strings.Repeat("l", late) + strings.Repeat("p", 57-late)
			f := withStride(degree, delay, 6)
			// What is guessed behind the last load is useless, as far as it is a line: the last load is that of the line 60.
			expectRun(t, "steady", f, loads, want, 57+min(3, degree), min(3, degree))
			if late == 57 {
				late = 59
			}
			want = "m" + strings.Repeat("l", late) + strings.Repeat("p", 59-late)
			expectRun(t, "steady", withNext(degree, delay, 6), loads, want, 59+min(3, degree), min(3, degree))
		}
	}
}

func TestCoverageAndAccuracy(t *testing.T) {
	for _, x := range []struct {
		what               string
		f                  impl.Prefetcher
		loads              []impl.Load
		coverage, accuracy []any
	}{
		{"the document's example", withStride(1, 0, 2), loadsFrom("a0 a2 a4 a6"), of(1, 4, true), of(1, 2, true)},
		{"no loads", withNext(4, 0, 6), nil, of(0, 0, false), of(0, 0, false)},
		{"nothing issued", withNext(4, 0, 6), loadsFrom("a63 a63"), of(0, 1, true), of(0, 0, false)},
		{"a degree of 0", withNext(0, 0, 6), loadsFrom("a1 a2"), of(0, 1, true), of(0, 0, false)},
		{"hits behind the first load", withStride(4, 0, 1), sameLoads(0, 5, 60), of(0, 1, true), of(0, 0, false)},
		{"all useless", withNext(4, 0, 6), loadsFrom("a5 a20 a35"), of(0, 1, true), of(0, 1, true)},
		{"none useless", withNext(1, 0, 6), loadsFrom("a62 a63"), of(1, 2, true), of(1, 1, true)},
		{"late ones are neither helped nor useless", withNext(1, 1, 6), loadsFrom("a62 a63"), of(0, 1, true), of(1, 1, true)},
		{"hits do not count", withNext(1, 0, 6), loadsFrom("a62 a63 a63 a62 a63"), of(1, 2, true), of(1, 1, true)},
		{"late ones count for both", withNext(2, 1, 6), loadsFrom("a60 a61 a62 a63"), of(1, 2, true), of(1, 1, true)},
		{"lowest terms", withNext(1, 0, 6), loadsFrom("a1 a2 a3 a4 a9 a20"), of(1, 2, true), of(1, 2, true)},
		{"as many as can be", withNext(1, 0, 1), steadyLoads(0, 4, 1, 60), of(59, 60, true), of(1, 1, true)},
	} {
		expect(t, x.what, of(impl.CoverageOf(x.f, x.loads)), x.coverage)
		expect(t, x.what, of(impl.AccuracyOf(x.f, x.loads)), x.accuracy)
	}
}

func TestBestDegreeExamples(t *testing.T) {
	for _, x := range []struct {
		what  string
		f     impl.Prefetcher
		loads []impl.Load
		best  int64
	}{
		{"no loads", withNext(0, 0, 6), nil, 0},
		{"one load", withNext(0, 0, 6), loadsFrom("a5"), 0},
		{"the document's example", withStride(0, 0, 2), loadsFrom("a0 a2 a4 a6"), 1},
		{"late is not better than a miss", withNext(0, 1, 6), loadsFrom("a0 a1"), 0},
		{"no degree helps", withNext(0, 8, 6), loadsFrom("a0 a1 a2 a3 a4 a5 a6"), 0},
		{"no guesses", withPair(0, 0, 6), steadyLoads(0, 0, 1, 60), 0},
		{"one is enough", withNext(0, 0, 6), steadyLoads(0, 0, 1, 60), 1},
		{"one is best, as others push lines out", withNext(0, 0, 1), steadyLoads(0, 0, 1, 60), 1},
		{"two are enough", withNext(0, 1, 6), steadyLoads(0, 0, 1, 60), 2},
		{"three are enough", withNext(0, 2, 6), steadyLoads(0, 0, 1, 60), 3},
		{"four are enough", withNext(0, 3, 6), steadyLoads(0, 0, 1, 60), 4},
		{"four are not enough", withNext(0, 4, 6), steadyLoads(0, 0, 1, 60), 0},
		{"two lines further", withNext(0, 0, 6), steadyLoads(0, 0, 2, 60), 2},
		{"three lines further", withNext(0, 0, 6), steadyLoads(0, 0, 3, 60), 3},
		{"four lines further", withNext(0, 0, 6), steadyLoads(0, 0, 4, 60), 4},
		{"five lines further", withNext(0, 0, 6), steadyLoads(0, 0, 5, 60), 0},
		{"guesses push out what is needed", withNext(0, 0, 2), slices.Repeat(loadsFrom("a0 a30"), 30), 0},
	} {
		for degree := range int64(5) {
			x.f.Degree = degree
			expect(t, fmt.Sprint(x.what, " from ", degree), of(impl.BestDegree(x.f, x.loads)), of(x.best, true))
		}
	}
}

// TestBestDegree: the best degree is the least one of those with the fewest loads that wait, whatever the given degree is.
func TestBestDegree(t *testing.T) {
	for i, loads := range append(someLoads(), shortLoads(4)...) {
		kind, delay, ways := int64(i)%3, int64(i)/3%9, 1+int64(i)/2%6
		var waits []int64
		for degree := range int64(5) {
			told := runTold(prefetcher(kind, degree, delay, ways), loads).tally()
			waits = append(waits, told.Misses+told.Late)
		}
		best := slices.Index(waits, slices.Min(waits))
		for degree := range int64(5) {
			f := prefetcher(kind, degree, delay, ways)
			expect(t, fmt.Sprint(f, loads), of(impl.BestDegree(f, loads)), of(best, true))
		}
	}
}

// expectPrefetchFailures fails the test unless every function with a prefetcher fails.
func expectPrefetchFailures(t *testing.T, f impl.Prefetcher, loads []impl.Load) {
	t.Helper()
	what := fmt.Sprint(f, loads)
	expect(t, what, of(impl.GuessesOf(f, loads)), of([][]int64{}, false))
	expect(t, what, of(impl.OutcomesOf(f, loads)), of([]int64{}, false))
	expect(t, what, of(impl.TallyOf(f, loads)), of(impl.Tally{}, false))
	expect(t, what, of(impl.CoverageOf(f, loads)), of(0, 0, false))
	expect(t, what, of(impl.AccuracyOf(f, loads)), of(0, 0, false))
	expect(t, what, of(impl.BestDegree(f, loads)), of(0, false))
}

func TestPrefetchInvalid(t *testing.T) {
	for _, loads := range badLoads() {
		for _, f := range []impl.Prefetcher{withNext(1, 0, 1), withNext(0, 0, 1), withStride(1, 0, 2), withPair(4, 8, 6)} {
			expectPrefetchFailures(t, f, loads)
		}
		expect(t, fmt.Sprint(loads), of(impl.StridesOf(loads)), of([]int64{}, false))
		for stream := range int64(4) {
			expect(t, fmt.Sprint(loads), of(impl.PairsOf(loads, stream)), of([][]int64{}, false))
		}
	}
	for _, f := range badPrefetchers() {
		for _, loads := range [][]impl.Load{nil, loadsFrom("a0 a2 a4 a6 a4 a6"), sameLoads(0, 5, 60)} {
			expectPrefetchFailures(t, f, loads)
		}
	}
	for _, stream := range []int64{-1, 4, -2, 5, 1 << 32, 1<<32 + 1, math.MinInt64, math.MaxInt64} {
		expect(t, fmt.Sprint("stream ", stream), of(impl.PairsOf(nil, stream)), of([][]int64{}, false))
		expect(t, fmt.Sprint("stream ", stream), of(impl.PairsOf(loadsFrom("a1 a2 d3 d4"), stream)), of([][]int64{}, false))
	}
}
