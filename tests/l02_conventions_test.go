package tests

// Promise 1 for chapter 2: totality, purity, and zero values beside a failure.

import (
	"math"
	"strings"
	"testing"

	"loop.example/g01112/impl"
)

// oddUses are lists that are uses or nearly are.
func oddUses() [][]int64 {
	lists := [][]int64{nil, {}, {0}, {63}, {64}, {-1}, {5, 5}, {7, 5, 7, 7, 2, 5}, {1, 64, 1}, {1, 1, -1}, {math.MaxInt64, 1}, {math.MinInt64},
		repeated(3, impl.MaxTrace), repeated(3, impl.MaxTrace+1), repeated(0, 5000), drawn(1, impl.MaxTrace, impl.MaxAddress), drawn(2, impl.MaxTrace, 4)}
	all := make([]int64, impl.MaxAddress)
	for i := range all {
		all[i] = int64(i)
	}
	return append(lists, all, all[:impl.MaxTrace])
}

// oddTraces are lists that are traces or nearly are.
func oddTraces() [][]impl.Access {
	var traces [][]impl.Access
	for _, uses := range oddUses() {
		for kind := range int64(2) {
			var t []impl.Access
			for i, a := range uses {
				t = append(t, impl.Access{Kind: (int64(i) + kind) % 2, Address: a})
			}
			traces = append(traces, t)
		}
	}
	for _, kind := range []int64{-1, 2, math.MinInt64, math.MaxInt64} {
		traces = append(traces, []impl.Access{{Kind: kind, Address: 1}}, []impl.Access{{Kind: 1, Address: 1}, {Kind: kind, Address: 1}})
	}
	return traces
}

// oddSets are lists that are sets of addresses or nearly are.
func oddSets() [][]int64 {
	return append(oddUses(), []int64{5, 7}, []int64{7, 5}, []int64{5, 5}, []int64{0, 1, 2, 63}, []int64{0, 1, 2, 64}, []int64{-1, 5})
}

// oddCounts are numbers at and beside the limits of chapter 2.
func oddCounts() []int64 {
	return []int64{math.MinInt64, -1001, -1000, -1, 0, 1, 2, 3, 5, 6, 59, 60, 61, 63, 64, 65, 1000, 1001, 1 << 32, math.MaxInt64}
}

// oddNests are loops that are as they should be or nearly are.
func oddNests() []impl.Nest {
	nests := []impl.Nest{{}, {Kind: 1, Base: 63}, {Counts: []int64{2, 3}, Strides: []int64{-4, 1}, Base: 3},
		{Counts: []int64{2}}, {Strides: []int64{2}}, {Counts: []int64{2, 3}, Strides: []int64{1}}, {Counts: []int64{2}, Strides: []int64{1, 2}},
		{Counts: []int64{1, 1, 1}, Strides: []int64{1, 2, 3}}, {Counts: []int64{1, 1, 1, 1}, Strides: []int64{1, 2, 3, 4}},
		{Counts: []int64{3, 4, 5}, Strides: []int64{-1000, 1000, 7}}, {Counts: []int64{60, 60, 60}, Strides: []int64{1, 1, 1}}}
	for _, n := range oddCounts() {
		nests = append(nests, impl.Nest{Kind: n}, impl.Nest{Base: n}, impl.Nest{Counts: []int64{n}, Strides: []int64{1}},
			impl.Nest{Counts: []int64{2}, Strides: []int64{n}}, impl.Nest{Counts: []int64{2, n}, Strides: []int64{n, n}},
			impl.Nest{Counts: []int64{n, n, n}, Strides: []int64{n, n, n}})
	}
	return nests
}

// oddTraceTexts are texts of traces and others.
func oddTraceTexts() []string {
	texts := append(oddTexts(), "5 5w*2 3", "5*1", "5*01", "5 5", "5w 5w", "05", "63", "64", "5W", "5*", "5*60", "5*61", "5*2w", "5x", "w", "*", "*2", "5ww", "5w*", "5**2")
	return append(texts, strings.Repeat("1 2 ", 29)+"1 2", strings.Repeat("1 2 ", 30)+"1", strings.Repeat("1 2 ", 5000), "1*"+strings.Repeat("9", 5000), strings.Repeat("1w*", 3000))
}

// traceCalls returns calls of every function of chapter 2.
func traceCalls() callList {
	var calls callList
	uses, traces, counts := valuesOf(oddUses()), valuesOf(oddTraces()), valuesOf(oddCounts())
	calls.addAll("ValidTrace", impl.ValidTrace, traces)
	calls.addAll("ValidUses", impl.ValidUses, uses)
	calls.addAll("UsesOf", impl.UsesOf, traces)
	calls.addAll("AddressesOf", impl.AddressesOf, uses)
	calls.addAll("CountsOf", impl.CountsOf, uses)
	calls.addAll("GapsOf", impl.GapsOf, uses)
	calls.addAll("NextUses", impl.NextUses, uses)
	calls.addAll("PhasesOf", impl.PhasesOf, uses, counts)
	calls.addAll("WorkingSet", impl.WorkingSet, uses, counts[3:14], counts[3:14])
	calls.addAll("WorkingSet", impl.WorkingSet, uses[5:8], counts, counts)
	calls.addAll("WorkingSizes", impl.WorkingSizes, uses, counts)
	calls.addAll("CanonicalUses", impl.CanonicalUses, uses)
	calls.addAll("OnlyUses", impl.OnlyUses, uses, valuesOf(oddSets())[1:])
	calls.addAll("NestTrace", impl.NestTrace, valuesOf(oddNests()))
	calls.addAll("TraceText", impl.TraceText, traces)
	calls.addAll("ReadTrace", impl.ReadTrace, valuesOf(oddTraceTexts()))
	turns := [][]int64{nil, {0}, {1}, {0, 1}, {1, 0}, {0, 0, 1}, {1, 2}, {0, -1}, {math.MinInt64}, {math.MaxInt64, 1},
		repeated(0, 60), repeated(1, 60), repeated(0, 61), drawn(3, 60, 2), drawn(4, 120, 2)}
	calls.addAll("MergeTraces", impl.MergeTraces, traces[4:], traces[4:14], valuesOf(turns))
	return calls
}

func TestTracesConventions(t *testing.T) {
	expectConventions(t, traceCalls())
}
