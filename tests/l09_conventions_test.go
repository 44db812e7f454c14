package tests

// Promise 1 for chapter 9: totality, purity, and zero values beside a failure.

import (
	"math"
	"slices"
	"testing"

	"loop.example/g01112/impl"
)

// oddLoads are loads that are valid or nearly are, the valid ones first.
func oddLoads() [][]impl.Load {
	odd := [][]impl.Load{nil, {}, loadsFrom("a0"), loadsFrom("d63 d63"), loadsFrom("a0 a2 a4 a6"), loadsFrom("a1 a2 a1 b7 a3 b8 a1 b7"), sameLoads(0, 63, impl.MaxLoads)}
	odd = append(odd, drawnLoads(3)[:impl.MaxLoads:impl.MaxLoads], steadyLoads(2, 63, -1, impl.MaxLoads))
	return append(append(odd, badLoads()...), sameLoads(1, 1, 5000))
}

// oddPrefetchers are prefetchers that are valid or nearly are, the valid ones first.
func oddPrefetchers() []impl.Prefetcher {
	var odd []impl.Prefetcher
	for kind := range int64(3) {
		odd = append(odd, prefetcher(kind, 0, 0, 1), prefetcher(kind, 1, 0, 2), prefetcher(kind, 4, 8, 6), prefetcher(kind, 2, 1, 1), prefetcher(kind, 3, 0, 3))
	}
	return append(odd, badPrefetchers()...)
}

// prefetchCalls returns calls of every function of chapter 9.
func prefetchCalls() callList {
	var calls callList
	loads, prefetchers := valuesOf(oddLoads()), valuesOf(oddPrefetchers())
	streams := valuesOf([]int64{math.MinInt64, -1, 0, 1, 2, 3, 4, 1 << 32, 1<<32 + 1, math.MaxInt64})
	calls.addAll("ValidLoads", impl.ValidLoads, loads)
	calls.addAll("ValidPrefetcher", impl.ValidPrefetcher, prefetchers)
	calls.addAll("StridesOf", impl.StridesOf, loads)
	calls.addAll("PairsOf", impl.PairsOf, loads, streams)
	few := slices.Concat(prefetchers[:15], prefetchers[len(prefetchers)-2:])
	for name, fn := range map[string]any{"GuessesOf": impl.GuessesOf, "OutcomesOf": impl.OutcomesOf, "TallyOf": impl.TallyOf, "CoverageOf": impl.CoverageOf, "AccuracyOf": impl.AccuracyOf, "BestDegree": impl.BestDegree} {
		calls.addAll(name, fn, few, loads)
		calls.addAll(name, fn, prefetchers, loads[3:6])
	}
	return calls
}

func TestPrefetchConventions(t *testing.T) {
	expectConventions(t, prefetchCalls())
}
