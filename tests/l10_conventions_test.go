package tests

// Promise 1 for chapter 10: totality, purity, and zero values beside a failure.

import (
	"math"
	"slices"
	"strings"
	"testing"

	"loop.example/g01112/impl"
)

// oddProtocols are protocols that are valid or nearly are, the valid ones first.
func oddProtocols() []impl.Protocol {
	odd := slices.Concat(validProtocols(), drawnProtocols(20), badProtocols())
	return append(odd, impl.Protocol{Read: make([]impl.Rule, 5000)})
}

// oddSystems are systems that are valid or nearly are, the valid ones first.
func oddSystems() []impl.System {
	odd := slices.Concat(allSystems(1), allSystems(3)[200:240], badSystems())
	return append(odd, impl.System{Copies: make([]int64, 5000), Fresh: make([]bool, 5000)})
}

// oddOpLists are lists of ops that are valid or nearly are, the valid ones first.
func oddOpLists() [][]impl.Op {
	odd := [][]impl.Op{nil, {}, opsFrom("r0"), opsFrom("w0 e0"), opsFrom("r0 w1 r0 w0"), opsFrom("r0 r1 r2 w0 w1 e1"), drawnOps(1, 1), drawnOps(2, 2), drawnOps(3, 3)}
	for _, o := range badOps(3) {
		odd = append(odd, []impl.Op{o}, append(opsFrom("w0 e0"), o))
	}
	return append(odd, append(drawnOps(1, 1), impl.Op{}), make([]impl.Op, 5000), opsFrom(strings.Repeat("r0 w0 ", 20)+"e3"))
}

// oddThreads are threads that are valid or nearly are, the valid ones first.
func oddThreads() [][][]impl.Step {
	odd := [][][]impl.Step{{nil}, {{}, {}}, threadsFrom("r0"), threadsFrom("w01 r1 | w11 r0"), threadsFrom("w01 r0 r1 | w11 f r0"), threadsFrom("w01 w01 w01 r1 | w11 w11 w11 r0"), threadsFrom("f f f f | w02 w12 w01 w11")}
	odd = append(append(odd, drawnLitmus(10)...), badThreads()...)
	return append(odd, make([][]impl.Step, 5000), [][]impl.Step{make([]impl.Step, 5000)})
}

// cachesCalls returns calls of every function of chapter 10.
func cachesCalls() callList {
	var calls callList
	bools := valuesOf([]bool{false, true})
	calls.addAll("MsiProtocol", impl.MsiProtocol, bools)
	calls.addAll("ThroughProtocol", impl.ThroughProtocol, bools)
	protocols, systems, lists := valuesOf(oddProtocols()), valuesOf(oddSystems()), valuesOf(oddOpLists())
	few := valuesOf([]impl.Protocol{toldMsi(true), changed(toldMsi(false), inEvict, 3, rule("n", false)), drawnProtocol(7), {}})
	counts := valuesOf([]int64{math.MinInt64, -1, 0, 1, 2, 3, 4, 5, 1 << 32, 1<<32 + 1, math.MaxInt64})
	rules := valuesOf([]impl.Rule{{}, {Next: 1, Shared: 1}, {Next: 3, Shared: 2, Back: true}, {Next: -1}, {Next: 1, Shared: 4}, {Next: math.MaxInt64, Shared: math.MinInt64}})
	calls.addAll("ValidProtocol", impl.ValidProtocol, protocols)
	calls.addAll("ChangeRule", impl.ChangeRule, protocols, counts[3:4], counts[4:5], rules)
	calls.addAll("ChangeRule", impl.ChangeRule, few, counts, counts, rules)
	calls.addAll("ValidSystem", impl.ValidSystem, systems)
	ops := valuesOf(append(allOps(3), badOps(3)...))
	calls.addAll("StepSystem", impl.StepSystem, protocols, systems[20:24], ops[:9])
	calls.addAll("StepSystem", impl.StepSystem, few, systems, ops[:9])
	calls.addAll("StepSystem", impl.StepSystem, few, systems[20:24], ops)
	for name, fn := range map[string]any{"RunSystem": impl.RunSystem, "BusTraffic": impl.BusTraffic} {
		calls.addAll(name, fn, protocols, counts[4:6], lists[2:5])
		calls.addAll(name, fn, few, counts, lists)
	}
	for name, fn := range map[string]any{"ReachedSystems": impl.ReachedSystems, "OwnersAlone": impl.OwnersAlone, "ShortestFlaw": impl.ShortestFlaw} {
		calls.addAll(name, fn, protocols, counts[4:6])
		calls.addAll(name, fn, few, counts)
	}
	threads := valuesOf(oddThreads())
	calls.addAll("ValidLitmus", impl.ValidLitmus, threads)
	calls.addAll("PlainOutcomes", impl.PlainOutcomes, threads)
	calls.addAll("BufferedOutcomes", impl.BufferedOutcomes, threads, counts)
	calls.addAll("LeastFences", impl.LeastFences, threads, counts)
	return calls
}

func TestCachesConventions(t *testing.T) {
	expectConventions(t, cachesCalls())
}
