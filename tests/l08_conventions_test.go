package tests

// Promise 1 for chapter 8: totality, purity, and zero values beside a failure.

import (
	"math"
	"slices"
	"testing"

	"loop.example/g01112/impl"
)

// oddSpaces are spaces that are valid or nearly are, the valid ones first.
func oddSpaces() []impl.Space {
	odd := validSpaces()
	for _, b := range badSpaces() {
		odd = append(odd, b.space)
	}
	return append(odd, impl.Space{Root: repeated(-1, 5000)}, impl.Space{Root: repeated(0, 8), Tables: make([][]impl.Entry, 5000)})
}

// pagesCalls returns calls of every function of chapter 8.
func pagesCalls() callList {
	var calls callList
	spaces, traces := valuesOf(oddSpaces()), valuesOf(oddTraces())
	few := valuesOf([]impl.Space{toldFull().space(), staleSpace(), agreeingSpace(), {}})
	pages := valuesOf([]int64{math.MinInt64, -1, 0, 7, 8, 9, 24, 40, 63, 64, 1 << 32, math.MaxInt64})
	frames := valuesOf([]int64{math.MinInt64, -1, 0, 1, 9, 15, 16, 17, 1 << 32, 1<<32 + 1, math.MaxInt64})
	bools := valuesOf([]bool{false, true})
	calls.addAll("NewSpace", impl.NewSpace, valuesOf([]int64{math.MinInt64, -1, 0, 1, 2, 7, 8, 9, 1 << 32, 1<<32 + 1, math.MaxInt64}))
	for name, fn := range map[string]any{"ValidSpace": impl.ValidSpace, "BufferAgrees": impl.BufferAgrees, "MappedPages": impl.MappedPages, "FreeFrames": impl.FreeFrames, "FlushAll": impl.FlushAll, "ClearUsed": impl.ClearUsed, "DirtyPages": impl.DirtyPages} {
		calls.addAll(name, fn, spaces)
	}
	for name, fn := range map[string]any{"WalkPage": impl.WalkPage, "UnmapPage": impl.UnmapPage, "FlushPage": impl.FlushPage} {
		calls.addAll(name, fn, spaces, pages[2:4])
		calls.addAll(name, fn, few, pages)
	}
	calls.addAll("ProtectPage", impl.ProtectPage, spaces, pages[2:3], bools)
	calls.addAll("ProtectPage", impl.ProtectPage, few, pages, bools)
	calls.addAll("MapPage", impl.MapPage, spaces, pages[6:8], frames[3:4], bools[:1])
	calls.addAll("MapPage", impl.MapPage, few[1:3], pages, frames, bools[1:])
	var accesses []impl.Access
	for _, kind := range []int64{math.MinInt64, -1, 0, 1, 2, 1 << 32, math.MaxInt64} {
		for _, page := range []int64{math.MinInt64, -1, 0, 9, 24, 40, 63, 64, math.MaxInt64} {
			accesses = append(accesses, access(kind, page))
		}
	}
	calls.addAll("UsePage", impl.UsePage, spaces, valuesOf(accesses[18:22]))
	calls.addAll("UsePage", impl.UsePage, few, valuesOf(accesses))
	calls.addAll("RunSpace", impl.RunSpace, spaces, slices.Concat(traces[:4], traces[30:32]))
	calls.addAll("RunSpace", impl.RunSpace, few, traces)
	calls.addAll("ClockRun", impl.ClockRun, frames, traces)
	calls.addAll("SetFaults", impl.SetFaults, valuesOf(oddUses()), valuesOf(oddCounts()))
	return calls
}

func TestPagesConventions(t *testing.T) {
	expectConventions(t, pagesCalls())
}
