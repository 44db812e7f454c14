package tests

// Promise 1 for chapter 11: totality, purity, and zero values beside a failure.

import (
	"math"
	"slices"
	"strings"
	"testing"

	"loop.example/g01112/impl"
)

// oddGraphs are graphs that are valid or nearly are, the valid ones first.
func oddGraphs() []impl.Graph {
	odd := slices.Concat(graphsOf(1), graphsOf(2), graphsOf(3), knownGraphs())
	odd = append(odd, impl.Graph{Before: make([][]int64, impl.MaxNodes)}, graphFrom("/0/1/12/02"), graphFrom("//01/01/23"))
	return append(odd, badGraphs()...)
}

// oddMoveLists are lists of moves that can be made with some graphs or nearly, the ones that can first.
func oddMoveLists() [][]impl.Move {
	odd := [][]impl.Move{nil, {}, movesFrom("l0"), movesFrom("l0 l1 c2 s2"), movesFrom("l0 c1 d0 c2 s2"), movesFrom("l0 d0"), walk(graphFrom("//01"), 3, 1), walk(graphFrom("/0/1/12/02"), 4, 2)}
	for _, n := range []int64{-1, 4, 6, 64, 1 << 32, math.MinInt64, math.MaxInt64} {
		odd = append(odd, []impl.Move{{Kind: n}}, []impl.Move{{Node: n}}, append(movesFrom("l0"), impl.Move{Kind: impl.MoveDrop, Node: n}), append(movesFrom("l0"), impl.Move{Kind: n, Node: n}))
	}
	return append(odd, slices.Repeat(movesFrom("l0 d0"), impl.MaxMoves/2), append(slices.Repeat(movesFrom("l0 d0"), impl.MaxMoves/2), impl.Move{}), make([]impl.Move, 5000))
}

// oddBenches are benches that are valid or nearly are, the valid ones first.
func oddBenches() []impl.Bench {
	odd := []impl.Bench{benchWith("", "0|0"), benchWith("5 5w*2 3", "01/10|10"), benchWith("63w*60", "10/01|01"), benchWith("0 1 2 0 1", "012345/012345/012345/012345/012345/012345|501234")}
	odd = append(odd, manyBenches()[700:704]...)
	return append(odd, badBenches()...)
}

// oddLines are lines that are some of the table or nearly are.
func oddLines() []string {
	lines := scriptLines()
	for _, text := range oddTexts() {
		lines = append(lines, text, "trace "+text, "policy "+text, "traffic "+text, "run "+text, "best"+text)
	}
	return lines
}

// oddScripts are scripts and journals that are valid or nearly are.
func oddScripts() []string {
	scripts := slices.Concat(oddTexts(), scriptLines())
	for seed := range uint64(4) {
		lines := drawnScript(seed, 40)
		journal, _ := impl.JournalOf(lines)
		script := strings.Join(append(lines, ""), "\n")
		scripts = append(scripts, script, script[:len(script)-1], journal, journal[:len(journal)-1], journal+"xx")
	}
	return append(scripts, "\n", "re run\nxx", "ra run\n", strings.Repeat("ab \n", impl.MaxScript/4), strings.Repeat("\n", impl.MaxScript), strings.Repeat("\n", impl.MaxScript+1), strings.Repeat("run\n", 50000))
}

// oddLineLists are lists of lines with journals, and others.
func oddLineLists() [][]string {
	odd := append(journalLines(), []string{"\n"}, []string{"run", "be\nst"}, make([]string, impl.MaxScript/4), make([]string, impl.MaxScript/4+1), make([]string, 50000))
	for _, text := range oddTexts() {
		odd = append(odd, []string{text}, []string{"run", text, "run"})
	}
	return odd
}

// benchCalls returns calls of every function of chapter 11.
func benchCalls() callList {
	var calls callList
	graphs, moves := valuesOf(oddGraphs()), valuesOf(oddMoveLists())
	counts := valuesOf([]int64{math.MinInt64, -1, 0, 1, 2, 3, 4, 5, 6, 7, 64, 1 << 32, 1<<32 + 1, math.MaxInt64})
	few := valuesOf([]impl.Graph{graphFrom(""), graphFrom("//01"), graphFrom("/0/1/12/02"), graphFrom("/////"), {}})
	for name, fn := range map[string]any{"ValidGraph": impl.ValidGraph, "SourcesOf": impl.SourcesOf, "OutputsOf": impl.OutputsOf, "LeastPlaces": impl.LeastPlaces, "TransferBound": impl.TransferBound} {
		calls.addAll(name, fn, graphs)
	}
	for name, fn := range map[string]any{"RunPebbling": impl.RunPebbling, "IsPebbling": impl.IsPebbling} {
		calls.addAll(name, fn, graphs, counts[5:6], moves[2:8])
		calls.addAll(name, fn, few, counts, moves)
	}
	for name, fn := range map[string]any{"LeastTransfers": impl.LeastTransfers, "BestPebbling": impl.BestPebbling} {
		calls.addAll(name, fn, graphs, counts[5:6])
		calls.addAll(name, fn, few, counts)
	}
	benches, lines, scripts := valuesOf(oddBenches()), valuesOf(oddLines()), valuesOf(oddScripts())
	calls.addAll("ValidBench", impl.ValidBench, benches)
	calls.addAll("BenchCommand", impl.BenchCommand, benches[:9], lines)
	calls.addAll("BenchCommand", impl.BenchCommand, benches, valuesOf([]string{"run", "trace 5", "fly"}))
	calls.addAll("RunBench", impl.RunBench, benches[:9], scripts)
	calls.addAll("RunBench", impl.RunBench, benches, valuesOf([]string{"", "run\n", "run"}))
	calls.addAll("JournalOf", impl.JournalOf, valuesOf(oddLineLists()))
	calls.addAll("RecoverJournal", impl.RecoverJournal, scripts)
	return calls
}

func TestBenchConventions(t *testing.T) {
	expectConventions(t, benchCalls())
}
