package tests

// Promise 1 for chapter 7: totality, purity, and zero values beside a failure.

import (
	"math"
	"slices"
	"testing"

	"loop.example/g01112/impl"
)

// oddCaches are caches that are valid or nearly are.
func oddCaches() []impl.Cache {
	odd := cachesOf(policyWithText("012/120/201|210"))
	for i, p := range fewPolicies() {
		odd = append(odd, impl.Cache{Policy: p, Back: i%2 == 0, Allocate: i%3 == 0})
	}
	return append(odd, impl.Cache{Back: true, Allocate: true})
}

// oddLevels are levels that are valid or nearly are.
func oddLevels() []impl.Levels {
	odd := []impl.Levels{{}}
	small, large := policyWithText("0|0"), policyWithText("012/120/201|210")
	for _, mode := range []int64{math.MinInt64, -1, 0, 1, 2, 3, 1 << 32, 1<<32 + 1, math.MaxInt64} {
		odd = append(odd, impl.Levels{First: small, Second: large, Mode: mode}, impl.Levels{First: large, Second: large, Mode: mode}, impl.Levels{First: large, Second: small, Mode: mode})
	}
	for i, p := range fewPolicies() {
		mode := int64(i) % 3
		odd = append(odd, impl.Levels{First: p, Second: large, Mode: mode}, impl.Levels{First: small, Second: p, Mode: mode}, impl.Levels{First: p, Second: p, Mode: (mode + 1) % 3})
	}
	return odd
}

// levelsCalls returns calls of every function of chapter 7.
func levelsCalls() callList {
	var calls callList
	caches, levels := valuesOf(oddCaches()), valuesOf(oddLevels())
	traces, uses := valuesOf(oddTraces()), valuesOf(oddUses())
	few := slices.Concat(traces[:4], traces[8:12], traces[14:16], traces[len(traces)-2:])
	places := valuesOf([]int64{math.MinInt64, -1, 0, 1, 2, 3, 7, 8, 9, 1 << 32, 1<<32 + 1, math.MaxInt64})
	calls.addAll("ValidCache", impl.ValidCache, caches)
	calls.addAll("PlainReads", impl.PlainReads, traces)
	calls.addAll("PlainMemory", impl.PlainMemory, traces)
	for name, fn := range map[string]any{"CacheReads": impl.CacheReads, "CacheMemory": impl.CacheMemory, "DirtyLines": impl.DirtyLines, "TrafficOf": impl.TrafficOf} {
		calls.addAll(name, fn, caches[:8], traces)
		calls.addAll(name, fn, caches, few)
	}
	calls.addAll("BufferOrder", impl.BufferOrder, traces, places)
	calls.addAll("BufferMemory", impl.BufferMemory, traces, places)
	calls.addAll("ValidLevels", impl.ValidLevels, levels)
	calls.addAll("RunLevels", impl.RunLevels, levels, uses)
	calls.addAll("LevelContents", impl.LevelContents, levels, uses)
	calls.addAll("BackInvalidations", impl.BackInvalidations, levels, uses)
	return calls
}

func TestLevelsConventions(t *testing.T) {
	expectConventions(t, levelsCalls())
}
