package tests

// Promise 1 for chapter 6: totality, purity, and zero values beside a failure.

import (
	"math"
	"strings"
	"testing"

	"loop.example/g01112/impl"
)

// oddIndices are indices that are valid or nearly are.
func oddIndices() []impl.Index {
	odd := []impl.Index{{}, {Rows: []int64{}}, {Rows: []int64{7}}, {Rows: []int64{1, 3}}, {Rows: []int64{0, 0}}, {Rows: []int64{5, 5, 5}}, {Rows: []int64{56, 6, 1}}, {Rows: []int64{3, 5, 6}},
		{Rows: []int64{32, 16, 8, 4}}, {Rows: []int64{0, 0, 0, 0}}, {Rows: repeated(1, 5000)}}
	for _, n := range []int64{math.MinInt64, -1, 0, 63, 64, 1 << 32, 1<<32 + 1, math.MaxInt64} {
		odd = append(odd, impl.Index{Rows: []int64{n}}, impl.Index{Rows: []int64{n, 9}}, impl.Index{Rows: []int64{9, 18, n}})
	}
	return odd
}

// oddIndexTexts are texts of indices and others.
func oddIndexTexts() []string {
	texts := append(oddTexts(), badIndexTexts()...)
	return append(texts, "000000", "111111/000001", "000001/000011", "000001/000010/000100", strings.Repeat("000001/", 5000), strings.Repeat("/", 5000), strings.Repeat("1", 5000))
}

// indexCalls returns calls of every function of chapter 6.
func indexCalls() callList {
	var calls callList
	indices, uses, few := valuesOf(oddIndices()), valuesOf(oddUses()), valuesOf([][]int64{nil, {}, {64}, {0, 8, 0, 8}, drawn(5, impl.MaxTrace, impl.MaxAddress), repeated(1, impl.MaxTrace+1)})
	addresses := valuesOf([]int64{math.MinInt64, -1, 0, 1, 2, 62, 63, 64, 1 << 32, math.MaxInt64})
	places := valuesOf([]int64{math.MinInt64, -1, 0, 1, 2, 3, 4, 5, 1 << 32, 1<<32 + 1, math.MaxInt64})
	calls.addAll("ValidIndex", impl.ValidIndex, indices)
	calls.addAll("SetOf", impl.SetOf, indices, addresses)
	calls.addAll("SpanOf", impl.SpanOf, indices)
	calls.addAll("RankOf", impl.RankOf, indices)
	calls.addAll("ReducedIndex", impl.ReducedIndex, indices)
	calls.addAll("KernelOf", impl.KernelOf, indices)
	calls.addAll("SetMembers", impl.SetMembers, indices, addresses)
	calls.addAll("SetMisses", impl.SetMisses, indices, places, few)
	calls.addAll("SetMisses", impl.SetMisses, indices[2:9], places[2:8], uses)
	calls.addAll("MissKinds", impl.MissKinds, indices, places, few)
	calls.addAll("MissKinds", impl.MissKinds, indices[2:9], places[2:8], uses)
	calls.addAll("DifferencesOf", impl.DifferencesOf, uses)
	calls.addAll("PressureOf", impl.PressureOf, indices, uses)
	calls.addAll("BestIndex", impl.BestIndex, valuesOf([]int64{math.MinInt64, -1, 0, 1, 4, 1 << 32, 1<<32 + 1, math.MaxInt64}), places, uses)
	calls.addAll("BestIndex", impl.BestIndex, valuesOf([]int64{2, 3}), places[2:5], few)
	calls.addAll("IndexText", impl.IndexText, indices)
	calls.addAll("ReadIndex", impl.ReadIndex, valuesOf(oddIndexTexts()))
	return calls
}

func TestIndexConventions(t *testing.T) {
	expectConventions(t, indexCalls())
}
