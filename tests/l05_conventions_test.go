package tests

// Promise 1 for chapter 5: totality, purity, and zero values beside a failure.

import (
	"math"
	"testing"

	"loop.example/g01112/impl"
)

// oddNumberSets are lists that are sets of the numbers of uses or of intervals, or nearly are.
func oddNumberSets() [][]int64 {
	return [][]int64{nil, {}, {0}, {1}, {-1}, {58}, {59}, {60}, {0, 1}, {1, 0}, {1, 1}, {0, 2, 3}, {2, 59}, {0, math.MaxInt64}, {math.MinInt64, 0},
		countedUp(5), countedUp(59), countedUp(60), countedUp(61), repeated(0, 5000)}
}

// optimalCalls returns calls of every function of chapter 5.
func optimalCalls() callList {
	var calls callList
	uses := valuesOf(append(oddUses(), []int64{0, 1, 2, 0, 1}, append(countedUp(30), countedUp(30)...)))
	ways := valuesOf([]int64{math.MinInt64, -1, 0, 1, 2, 3, 6, 7, 1 << 32, math.MaxInt64})
	sets := valuesOf(oddNumberSets())
	calls.addAll("BestMisses", impl.BestMisses, uses, ways)
	calls.addAll("BestVictims", impl.BestVictims, uses, ways)
	calls.addAll("BestCurve", impl.BestCurve, uses)
	calls.addAll("BypassMisses", impl.BypassMisses, uses, ways)
	calls.addAll("RatioOf", impl.RatioOf, valuesOf(fewPolicies()), uses)
	calls.addAll("IntervalsOf", impl.IntervalsOf, uses)
	calls.addAll("IsKept", impl.IsKept, uses, ways[2:8], sets)
	calls.addAll("IsKept", impl.IsKept, uses[5:8], ways, sets)
	calls.addAll("KeptIntervals", impl.KeptIntervals, uses, ways)
	calls.addAll("HitBound", impl.HitBound, uses, ways[2:8], sets)
	calls.addAll("HitBound", impl.HitBound, uses[5:8], ways, sets)
	calls.addAll("BestCuts", impl.BestCuts, uses, ways)
	return calls
}

func TestOptimalConventions(t *testing.T) {
	expectConventions(t, optimalCalls())
}
