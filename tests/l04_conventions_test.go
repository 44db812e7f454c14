package tests

// Promise 1 for chapter 4: totality, purity, and zero values beside a failure.

import (
	"math"
	"testing"

	"loop.example/g01112/impl"
)

// oddRanks are lists that are ranks or nearly are.
func oddRanks() [][]int64 {
	var odd [][]int64
	for i, ranks := range append(manyRanks(), badRanks()...) {
		if i%5 == 0 {
			odd = append(odd, ranks)
		}
	}
	return odd
}

// oddPrograms are lists of uses that are programs or nearly are.
func oddPrograms() [][][]int64 {
	odd := [][][]int64{nil, {}, {nil}, {{}}, {{64}}, {{1}, {-1}}, {repeated(1, impl.MaxTrace+1)}, make([][]int64, 4), make([][]int64, 5), make([][]int64, 500)}
	for i, programs := range manyPrograms() {
		if i%3 == 0 {
			odd = append(odd, programs)
		}
	}
	return odd
}

// sizesCalls returns calls of every function of chapter 4.
func sizesCalls() callList {
	var calls callList
	uses, counts, ranks := valuesOf(oddUses()), valuesOf(oddCounts()), valuesOf(oddRanks())
	few, some := valuesOf(fewPolicies()[:12]), valuesOf(append(knownPolicies()[3:11], impl.Policy{}))
	short := valuesOf([][]int64{nil, {}, {0}, {64}, {0, 1, 2, 0, 3}, repeated(3, impl.MaxTrace+1), drawn(2, impl.MaxTrace, 9)})
	calls.addAll("DistancesOf", impl.DistancesOf, uses)
	calls.addAll("DistanceCounts", impl.DistanceCounts, uses)
	calls.addAll("StackOf", impl.StackOf, uses)
	calls.addAll("LruCurve", impl.LruCurve, uses, counts)
	calls.addAll("SizeFor", impl.SizeFor, uses, counts)
	calls.addAll("ValidRanks", impl.ValidRanks, ranks)
	calls.addAll("RankContents", impl.RankContents, ranks, short, counts)
	calls.addAll("RankStack", impl.RankStack, ranks, uses)
	calls.addAll("RankCurve", impl.RankCurve, ranks, short, valuesOf([]int64{math.MinInt64, -1, 0, 5, 60, 61}))
	calls.addAll("Includes", impl.Includes, some, some, short)
	calls.addAll("Includes", impl.Includes, few, few, short[:5])
	calls.addAll("FirstBreak", impl.FirstBreak, some, some, short)
	calls.addAll("FirstBreak", impl.FirstBreak, few, few, short[:5])
	calls.addAll("ShortestBreak", impl.ShortestBreak, few, few)
	calls.addAll("ShortestBreak", impl.ShortestBreak, some, some)
	calls.addAll("BestShares", impl.BestShares, valuesOf(oddPrograms()), counts)
	calls.addAll("ShareMisses", impl.ShareMisses, valuesOf(oddPrograms()), valuesOf([][]int64{nil, {}, {0}, {60}, {61}, {-1}, {1, 2}, {5, math.MaxInt64}, {1, 2, 3}, {1, 2, 3, 4}, {0, 0, 0, 0, 0}}))
	return calls
}

func TestSizesConventions(t *testing.T) {
	expectConventions(t, sizesCalls())
}
