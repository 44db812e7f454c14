package tests

// Promise 12 (chapter 11), for graphs: no pebbling has fewer transfers than the best one, which has at least the bound.

import (
	"fmt"
	"math"
	"slices"
	"strings"
	"testing"

	"loop.example/g01112/impl"
)

// graphFrom returns the graph with a part for each node, with / between parts: the digits of the nodes that it needs.
func graphFrom(s string) impl.Graph {
	var g impl.Graph
	for _, part := range strings.Split(s, "/") {
		before := []int64{}
		for _, digit := range part {
			before = append(before, int64(digit-'0'))
		}
		g.Before = append(g.Before, before)
	}
	return g
}

// movesFrom returns moves with a word for each of them: l, s, c or d for its kind, and the node.
func movesFrom(s string) []impl.Move {
	var moves []impl.Move
	for _, pair := range lettersAndDigits(s, "lscd") {
		moves = append(moves, impl.Move{Kind: pair[0], Node: pair[1]})
	}
	return moves
}

// graphsOf returns all graphs with some number of nodes.
func graphsOf(nodes int) []impl.Graph {
	all := []impl.Graph{{}}
	for n := range nodes {
		var longer []impl.Graph
		for _, g := range all {
			for _, before := range subsetsOf(n) {
				longer = append(longer, impl.Graph{Before: append(slices.Clone(g.Before), before)})
			}
		}
		all = longer
	}
	return all
}

// someGraphs are all graphs with up to 4 nodes, and some with more.
func someGraphs() []impl.Graph {
	some := slices.Concat(graphsOf(1), graphsOf(2), graphsOf(3), graphsOf(4))
	for i, g := range graphsOf(5) {
		if i%29 == 3 {
			some = append(some, g)
		}
	}
	for i, g := range graphsOf(6) {
		if i%997 == 500 {
			some = append(some, g)
		}
	}
	return append(some, knownGraphs()...)
}

// knownGraphs are graphs with MaxNodes nodes: without edges, a chain, a tree, and the one in which each node needs all before it.
func knownGraphs() []impl.Graph {
	return []impl.Graph{graphFrom("/////"), graphFrom("/0/1/2/3/4"), graphFrom("////012/34"), graphFrom("///01/23/4"), graphFrom("/0/01/012/0123/01234")}
}

// badGraphs are graphs that are not valid.
func badGraphs() []impl.Graph {
	bad := []impl.Graph{{}, {Before: [][]int64{}}, {Before: make([][]int64, impl.MaxNodes+1)}, {Before: make([][]int64, 5000)}}
	for _, before := range [][]int64{{-1}, {2}, {3}, {6}, {0, 2}, {-1, 0}, {0, 0}, {1, 1}, {1, 0}, {0, 1, 1}, {0, 1, 0}, {0, 1, 2}, {0, -1}, {math.MinInt64}, {math.MaxInt64}, {1 << 32}, {0, 1<<32 + 1}, {64}, {256}, repeated(0, 5000), countedUp(5000)} {
		bad = append(bad, impl.Graph{Before: [][]int64{{}, {}, before}}, impl.Graph{Before: [][]int64{{}, {0}, before, {}, {3}, {4}}})
	}
	return append(bad, graphFrom("0"), graphFrom("1"), graphFrom("/1"), graphFrom("///////"), impl.Graph{Before: [][]int64{{-1}}}, impl.Graph{Before: [][]int64{{}, {0}, {1}, {2}, {3}, {5}}})
}

// memories tells which values are in the fast and in the slow memory.
type memories struct {
	fast, slow [impl.MaxNodes]bool
}

// nodesIn returns the set of the nodes for which the list is true.
func nodesIn(list [impl.MaxNodes]bool) []int64 {
	var set []int64
	for n, is := range list {
		if is {
			set = append(set, int64(n))
		}
	}
	return set
}

// toldStart is what the memories have at first.
func toldStart(g impl.Graph) memories {
	var x memories
	for n, before := range g.Before {
		x.slow[n] = len(before) == 0
	}
	return x
}

// toldMove is a move as the document tells it.
func toldMove(g impl.Graph, places int64, x memories, m impl.Move) (memories, bool) {
	if m.Node < 0 || m.Node >= int64(len(g.Before)) {
		return x, false
	}
	isFull := int64(len(nodesIn(x.fast))) >= places
	switch m.Kind {
	case impl.MoveLoad:
		if !x.slow[m.Node] || x.fast[m.Node] || isFull {
			return x, false
		}
		x.fast[m.Node] = true
	case impl.MoveStore:
		if !x.fast[m.Node] || x.slow[m.Node] {
			return x, false
		}
		x.slow[m.Node] = true
	case impl.MoveCompute:
		if len(g.Before[m.Node]) == 0 || x.fast[m.Node] || isFull {
			return x, false
		}
		for _, n := range g.Before[m.Node] {
			if !x.fast[n] {
				return x, false
			}
		}
		x.fast[m.Node] = true
	case impl.MoveDrop:
		if !x.fast[m.Node] {
			return x, false
		}
		x.fast[m.Node] = false
	default:
		return x, false
	}
	return x, true
}

// toldEnd reports whether all outputs are in the slow memory.
func toldEnd(g impl.Graph, x memories) bool {
	for n := range g.Before {
		if !slices.ContainsFunc(g.Before, func(before []int64) bool { return slices.Contains(before, int64(n)) }) && !x.slow[n] {
			return false
		}
	}
	return true
}

// toldPebbling makes moves as the document tells it. It reports whether they can be made, and whether they are a pebbling.
func toldPebbling(g impl.Graph, places int64, moves []impl.Move) (memories, int64, bool, bool) {
	x, transfers := toldStart(g), int64(0)
	for _, m := range moves {
		next, ok := toldMove(g, places, x, m)
		if !ok {
			return memories{}, 0, false, false
		}
		x = next
		if m.Kind == impl.MoveLoad || m.Kind == impl.MoveStore {
			transfers++
		}
	}
	return x, transfers, true, toldEnd(g, x)
}

// movesOf are all moves with the nodes of a graph.
func movesOf(g impl.Graph) []impl.Move {
	var moves []impl.Move
	for kind := range int64(4) {
		for n := range g.Before {
			moves = append(moves, impl.Move{Kind: kind, Node: int64(n)})
		}
	}
	return moves
}

// compareMoves compares lists of moves lexicographically.
func compareMoves(a, b []impl.Move) int {
	return slices.CompareFunc(a, b, func(x, y impl.Move) int {
		return slices.Compare([]int64{x.Kind, x.Node}, []int64{y.Kind, y.Node})
	})
}

// cameBy is what moves have come to, with how many transfers.
type cameBy struct {
	memories
	transfers int64
}

// searchedPebbling looks through all lists of moves, the shorter ones first, but keeps of those that come to the same with as
// many transfers only the least of the shortest ones. It returns the best pebbling and its transfers.
func searchedPebbling(g impl.Graph, places int64) ([]impl.Move, int64, bool) {
	var best []impl.Move
	fewest, found := int64(math.MaxInt64), false
	known := map[cameBy]bool{{toldStart(g), 0}: true}
	last := map[cameBy][]impl.Move{{toldStart(g), 0}: {}}
	for range impl.MaxMoves + 1 {
		for x, moves := range last {
			if toldEnd(g, x.memories) && (x.transfers < fewest || x.transfers == fewest && len(moves) == len(best) && compareMoves(moves, best) < 0) {
				best, fewest, found = moves, x.transfers, true
			}
		}
		longer := map[cameBy][]impl.Move{}
		for x, moves := range last {
			for _, m := range movesOf(g) {
				next, ok := toldMove(g, places, x.memories, m)
				y := cameBy{next, x.transfers}
				if m.Kind <= impl.MoveStore {
					y.transfers++
				}
				if !ok || known[y] || y.transfers > fewest {
					continue
				}
				made := append(slices.Clone(moves), m)
				if other, isThere := longer[y]; !isThere || compareMoves(made, other) < 0 {
					longer[y] = made
				}
			}
		}
		for y := range longer {
			known[y] = true
		}
		last = longer
	}
	return best, fewest, found
}

// expectPebbling fails the test unless the best pebbling is this one and has so many transfers.
func expectPebbling(t *testing.T, graph string, places int64, moves string, transfers int64) {
	t.Helper()
	g := graphFrom(graph)
	what := fmt.Sprint(graph, " with ", places)
	best, ok := impl.BestPebbling(g, places)
	expect(t, what, of(best, ok), of(movesFrom(moves), true))
	n, ok := impl.LeastTransfers(g, places)
	expect(t, what, of(n, ok, impl.IsPebbling(g, places, best)), of(transfers, true, true))
}

// expectGraphFailures fails the test unless all functions with a graph fail for it.
func expectGraphFailures(t *testing.T, g impl.Graph) {
	t.Helper()
	what := fmt.Sprint(g)
	if len(what) > 300 {
		what = what[:300]
	}
	expect(t, what, of(impl.ValidGraph(g), impl.IsPebbling(g, 3, nil)), of(false, false))
	sources, ok := impl.SourcesOf(g)
	expect(t, what, of(sources, ok), of([]int64{}, false))
	outputs, ok := impl.OutputsOf(g)
	expect(t, what, of(outputs, ok), of([]int64{}, false))
	least, ok := impl.LeastPlaces(g)
	expect(t, what, of(least, ok), of(0, false))
	bound, ok := impl.TransferBound(g)
	expect(t, what, of(bound, ok), of(0, false))
	expectPlacesFailures(t, g, 3, nil)
}

// expectPlacesFailures fails the test unless all functions with a graph and places fail for them.
func expectPlacesFailures(t *testing.T, g impl.Graph, places int64, moves []impl.Move) {
	t.Helper()
	what := fmt.Sprint(len(g.Before), " nodes with ", places)
	fast, slow, transfers, ok := impl.RunPebbling(g, places, moves)
	expect(t, what, of(fast, slow, transfers, ok), of([]int64{}, []int64{}, 0, false))
	n, ok := impl.LeastTransfers(g, places)
	expect(t, what, of(n, ok), of(0, false))
	best, ok := impl.BestPebbling(g, places)
	expect(t, what, of(best, ok), of([]impl.Move{}, false))
	expect(t, what, of(impl.IsPebbling(g, places, moves)), of(false))
}

func TestPebblingExample(t *testing.T) {
	g := graphFrom("//01")
	least, ok := impl.LeastPlaces(g)
	expect(t, "places", of(least, ok), of(3, true))
	expectPebbling(t, "//01", 3, "l0 l1 c2 s2", 3)
	bound, ok := impl.TransferBound(g)
	expect(t, "bound", of(bound, ok), of(3, true))
	sources, ok := impl.SourcesOf(g)
	expect(t, "sources", of(sources, ok), of([]int64{0, 1}, true))
	outputs, ok := impl.OutputsOf(g)
	expect(t, "outputs", of(outputs, ok), of([]int64{2}, true))
	expect(t, "kinds", of(impl.MoveLoad, impl.MoveStore, impl.MoveCompute, impl.MoveDrop), of(0, 1, 2, 3))
}

func TestValidGraph(t *testing.T) {
	for _, g := range []impl.Graph{graphFrom(""), {Before: make([][]int64, 1)}, {Before: make([][]int64, impl.MaxNodes)}, {Before: [][]int64{nil, {0}, {}, {0, 1, 2}, nil, {4}}}} {
		expect(t, fmt.Sprint(g), of(impl.ValidGraph(g)), of(true))
	}
	for nodes := 1; nodes <= 5; nodes++ {
		for _, g := range graphsOf(nodes) {
			expect(t, fmt.Sprint(g), of(impl.ValidGraph(g)), of(true))
		}
	}
	for _, g := range badGraphs() {
		expectGraphFailures(t, g)
	}
}

// TestValidGraphLists: of all short lists, just those are a part of a graph that are increasing and below the index.
func TestValidGraphLists(t *testing.T) {
	for _, list := range listsUpTo(4, -1, 0, 1, 2, 3, 4) {
		for at := range 5 {
			g := impl.Graph{Before: make([][]int64, 5)}
			g.Before[at] = list
			wanted := len(list) == 0 || slices.IsSorted(list) && len(slices.Compact(slices.Clone(list))) == len(list) && list[0] >= 0 && list[len(list)-1] < int64(at)
			expect(t, fmt.Sprint(list, " at ", at), of(impl.ValidGraph(g)), of(wanted))
		}
	}
}

func TestSourcesAndOutputs(t *testing.T) {
	for _, g := range append(graphsOf(5), someGraphs()...) {
		var sources, outputs []int64
		differing := 0
		for n := range g.Before {
			isSource := len(g.Before[n]) == 0
			isOutput := !slices.ContainsFunc(g.Before, func(before []int64) bool { return slices.Contains(before, int64(n)) })
			if isSource {
				sources = append(sources, int64(n))
			}
			if isOutput {
				outputs = append(outputs, int64(n))
			}
			if isSource != isOutput {
				differing++
			}
		}
		gotSources, one := impl.SourcesOf(g)
		gotOutputs, two := impl.OutputsOf(g)
		bound, three := impl.TransferBound(g)
		expect(t, fmt.Sprint(g), of(gotSources, one, gotOutputs, two, bound, three), of(sources, true, outputs, true, differing, true))
	}
}

// TestNoEdges: each node is a source and an output, and nothing has to be done.
func TestNoEdges(t *testing.T) {
	for n := 1; n <= impl.MaxNodes; n++ {
		g := impl.Graph{Before: make([][]int64, n)}
		sources, _ := impl.SourcesOf(g)
		outputs, _ := impl.OutputsOf(g)
		least, _ := impl.LeastPlaces(g)
		bound, ok := impl.TransferBound(g)
		expect(t, fmt.Sprint(n), of(sources, outputs, least, bound, ok), of(countedUp(n), countedUp(n), 1, 0, true))
		for places := int64(1); places <= impl.MaxNodes; places++ {
			expectPebbling(t, strings.Repeat("/", n-1), places, "", 0)
			expect(t, "a load and a drop", of(impl.IsPebbling(g, places, movesFrom("l0 d0"))), of(true))
		}
	}
}

func TestLeastPlaces(t *testing.T) {
	for graph, want := range map[string]int{"": 1, "/": 1, "/0": 2, "/0/1/2/3/4": 2, "///01/23/4": 3, "////012/34": 4, "/0/01/012/0123/01234": 6, "/////01234": 6, "/0////": 2, "/0/01": 3, "//01/0": 3} {
		least, ok := impl.LeastPlaces(graphFrom(graph))
		expect(t, graph, of(least, ok), of(want, true))
	}
	for _, g := range someGraphs() {
		least, ok := impl.LeastPlaces(g)
		if !ok {
			t.Errorf("%v has no least places", g)
		}
		for places := int64(1); places <= impl.MaxNodes; places++ {
			_, one := impl.BestPebbling(g, places)
			_, two := impl.LeastTransfers(g, places)
			expect(t, fmt.Sprint(g, " with ", places), of(one, two), of(places >= least, places >= least))
		}
	}
}

// TestRunPebbling has for graphs, places and moves what is in the fast and in the slow memory in the end, and the transfers.
func TestRunPebbling(t *testing.T) {
	for _, c := range []struct {
		graph      string
		places     int64
		moves      string
		fast, slow []int64
		transfers  int
	}{
		{"//01", 3, "", nil, []int64{0, 1}, 0},
		{"//01", 1, "l1", []int64{1}, []int64{0, 1}, 1},
		{"//01", 1, "l1 d1 l0", []int64{0}, []int64{0, 1}, 2},
		{"//01", 3, "l0 l1 c2", []int64{0, 1, 2}, []int64{0, 1}, 2},
		{"//01", 3, "l0 l1 c2 s2", []int64{0, 1, 2}, []int64{0, 1, 2}, 3},
		{"//01", 3, "l0 l1 c2 d0 d2 l0 c2 d1 s2 d2 l2", []int64{0, 2}, []int64{0, 1, 2}, 5},
		{"/0/1/2/3/4", 2, "l0 c1 d0 c2 d1 c3 d2 c4 d3 c5 s5 d5", []int64{4}, []int64{0, 5}, 2},
		{"/0", 2, "l0 c1 s1 d0 d1 l1 l0 d0", []int64{1}, []int64{0, 1}, 4},
		{"/////", 6, "l5 l4 l3 l2 l1 l0", []int64{0, 1, 2, 3, 4, 5}, []int64{0, 1, 2, 3, 4, 5}, 6},
		{"", 6, "l0 d0 l0 d0", nil, []int64{0}, 2},
	} {
		fast, slow, transfers, ok := impl.RunPebbling(graphFrom(c.graph), c.places, movesFrom(c.moves))
		expect(t, c.graph+": "+c.moves, of(fast, slow, transfers, ok), of(c.fast, c.slow, c.transfers, true))
	}
}

// TestMovesThatFail has moves of which only the last one cannot be made.
func TestMovesThatFail(t *testing.T) {
	for _, c := range []struct {
		graph, moves, why string
		places            int64
	}{
		{"//01", "l2", "a load of what is not in the slow memory", 3},
		{"//01", "l0 l1 c2 d2 l2", "a load of what is in neither memory any more", 3},
		{"//01", "l0 l0", "a load of what is there", 3},
		{"//01", "l0 l1 c2 s2 l2", "a load of what has been computed", 3},
		{"//01", "l0 l1", "a load into a full memory", 1},
		{"//01/", "l0 l1 l3", "a load into a full memory", 2},
		{"//01", "s2", "a store of what is nowhere", 3},
		{"//01", "s0", "a store of what is only in the slow memory", 3},
		{"//01", "l0 s0", "a store of what the slow memory has", 3},
		{"//01", "l0 l1 c2 s2 s2", "a store of what has been stored", 3},
		{"//01", "l0 l1 c2 d2 s2", "a store of what has been dropped", 3},
		{"//01", "c0", "a compute of a source", 3},
		{"//01", "l0 d0 c0", "a compute of a source", 3},
		{"//01", "c2", "a compute with both values missing", 3},
		{"//01", "l1 c2", "a compute with a value missing", 3},
		{"//01", "l0 l1 d0 c2", "a compute with a value dropped", 3},
		{"//01", "l0 l1 c2 c2", "a compute of what is there", 3},
		{"//01", "l0 l1 c2", "a compute into a full memory", 2},
		{"//01", "d0", "a drop of what is only in the slow memory", 3},
		{"//01", "l0 l1 d2", "a drop of what is nowhere", 3},
		{"//01", "l0 d0 d0", "a drop of what has been dropped", 3},
		{"//01", "l0 l3", "no such node", 3},
		{"", "l0 d1", "no such node", 1},
	} {
		g, moves := graphFrom(c.graph), movesFrom(c.moves)
		_, _, _, ok := impl.RunPebbling(g, c.places, moves[:len(moves)-1])
		expect(t, c.why+" before", of(ok), of(true))
		for _, longer := range [][]impl.Move{moves, append(slices.Clone(moves), movesFrom("l1")...)} {
			fast, slow, transfers, ok := impl.RunPebbling(g, c.places, longer)
			expect(t, c.why, of(fast, slow, transfers, ok, impl.IsPebbling(g, c.places, longer)), of([]int64{}, []int64{}, 0, false, false))
		}
	}
}

// TestOddMoves: kinds and nodes that are none on both sides cannot be moved, also behind moves that can.
func TestOddMoves(t *testing.T) {
	odd := []int64{-1, 4, 5, 8, -4, 1 << 32, 1<<32 + 1, math.MinInt64, math.MaxInt64, 256, 64, -64}
	for _, n := range odd {
		for _, m := range []impl.Move{{Kind: n, Node: 0}, {Kind: n, Node: 2}, {Kind: 0, Node: n}, {Kind: 1, Node: n}, {Kind: 2, Node: n}, {Kind: 3, Node: n}, {Kind: n, Node: n}} {
			for _, before := range []string{"", "l0 l1 c2", "l0 l1 c2 s2"} {
				moves := append(movesFrom(before), m)
				fast, slow, transfers, ok := impl.RunPebbling(graphFrom("//01/2"), 4, moves)
				expect(t, fmt.Sprint(moves), of(fast, slow, transfers, ok, impl.IsPebbling(graphFrom("//01/2"), 4, moves)), of([]int64{}, []int64{}, 0, false, false))
			}
		}
	}
}

func TestPlacesLimits(t *testing.T) {
	for _, g := range append(knownGraphs(), graphFrom(""), graphFrom("//01")) {
		for _, places := range []int64{0, -1, impl.MaxNodes + 1, 8, 64, 1 << 32, 1<<32 + 3, math.MinInt64, math.MaxInt64} {
			expectPlacesFailures(t, g, places, nil)
			expectPlacesFailures(t, g, places, movesFrom("l0"))
		}
		for places := int64(1); places <= impl.MaxNodes; places++ {
			_, slow, _, ok := impl.RunPebbling(g, places, nil)
			sources, _ := impl.SourcesOf(g)
			expect(t, fmt.Sprint(places), of(slow, ok), of(sources, true))
		}
	}
}

// TestMovesLimit: at most MaxMoves moves are made, also if they would be a pebbling.
func TestMovesLimit(t *testing.T) {
	again := strings.Repeat("d0 l0 ", impl.MaxMoves/2-2)
	most := movesFrom("l0 " + again + "d0 l0 c1")
	most = append(most, impl.Move{Kind: impl.MoveStore, Node: 1})[:impl.MaxMoves]
	_, _, transfers, ok := impl.RunPebbling(graphFrom("/0"), 2, most)
	expect(t, "just as many", of(len(most), transfers, ok), of(impl.MaxMoves, 30, true))
	enough := movesFrom(strings.Repeat("l0 d0 ", impl.MaxMoves/2-2) + "l0 c1 s1 d0")
	_, _, transfers, ok = impl.RunPebbling(graphFrom("/0"), 2, enough)
	expect(t, "a pebbling", of(len(enough), transfers, ok, impl.IsPebbling(graphFrom("/0"), 2, enough)), of(impl.MaxMoves, 30, true, true))
	for _, one := range []string{"d1", "l0"} {
		more := append(slices.Clone(enough), movesFrom(one)...)
		fast, slow, transfers, ok := impl.RunPebbling(graphFrom("/0"), 2, more)
		expect(t, "one more", of(fast, slow, transfers, ok, impl.IsPebbling(graphFrom("/0"), 2, more)), of([]int64{}, []int64{}, 0, false, false))
	}
	_, _, _, ok = impl.RunPebbling(graphFrom("/0"), 2, slices.Repeat(movesFrom("l0 d0"), 3000))
	expect(t, "many more", of(ok), of(false))
}

func TestIsPebbling(t *testing.T) {
	for _, c := range []struct {
		graph, moves string
		places       int64
		want         bool
	}{
		{"//01", "", 3, false},
		{"//01", "l0 l1 c2", 3, false},
		{"//01", "l0 l1 c2 s2", 3, true},
		{"//01", "l0 l1 c2 s2 d2 d0 d1", 3, true},
		{"//01", "l0 l1 c2 s2 d2 l2 c2", 3, false},
		{"//01/2", "l0 l1 c2 s2", 4, false},
		{"//01/", "l0 l1 c2 s2", 3, true},
		{"/0/0", "l0 c1 s1 c2", 3, false},
		{"/0/0", "l0 c1 c2 s1", 3, false},
		{"/0/0", "l0 c1 s1 d1 c2 s2", 2, true},
		{"/0/1", "l0 c1 c2 s2", 3, true},
		{"/0/1", "l0 c1 c2 s1", 3, false},
		{"/0/1", "l0 c1 c2 s1 s2", 3, true},
		{"", "", 1, true},
		{"", "l0", 1, true},
	} {
		expect(t, c.graph+": "+c.moves, of(impl.IsPebbling(graphFrom(c.graph), c.places, movesFrom(c.moves))), of(c.want))
	}
}

// walk makes moves that are drawn, of which most can be made, and returns them.
func walk(g impl.Graph, places int64, seed uint64) []impl.Move {
	x := toldStart(g)
	all := movesOf(g)
	var made []impl.Move
	for _, n := range drawn(seed, impl.MaxMoves, 5040) {
		var open []impl.Move
		for _, m := range all {
			// Drops are drawn less often than other moves, so that more is computed.
			if _, ok := toldMove(g, places, x, m); ok && (m.Kind != impl.MoveDrop || n%5 < 2) {
				open = append(open, m)
			}
		}
		m := all[n%int64(len(all))]
		if len(open) > 0 && n%61 != 0 {
			m = open[n%int64(len(open))]
		}
		made = append(made, m)
		x, _ = toldMove(g, places, x, m)
	}
	return made
}

// TestWalks: what moves do is what the document tells, and no pebbling has fewer transfers than the best one or the bound.
func TestWalks(t *testing.T) {
	pebblings, failures := 0, 0
	for i, g := range append(someGraphs(), knownGraphs()...) {
		bound, _ := impl.TransferBound(g)
		for places := int64(1); places <= impl.MaxNodes; places++ {
			fewest, ok := impl.LeastTransfers(g, places)
			for seed := range uint64(4) {
				moves := walk(g, places, seed+uint64(10*i)+1000*uint64(places))
				for n := range len(moves) + 1 {
					x, transfers, canMake, isPebbling := toldPebbling(g, places, moves[:n])
					fast, slow, got, isMade := impl.RunPebbling(g, places, moves[:n])
					if isMade != canMake || got != transfers || !slices.Equal(fast, nodesIn(x.fast)) || !slices.Equal(slow, nodesIn(x.slow)) {
						t.Fatalf("%v with %d makes %v: %v %v %d %v", g, places, moves[:n], fast, slow, got, isMade)
					}
					if is := impl.IsPebbling(g, places, moves[:n]); is != isPebbling || is && (!ok || got < fewest || got < bound) {
						t.Fatalf("%v with %d: a pebbling %v is %v, with %d transfers, bound %d, fewest %d", g, places, moves[:n], is, got, bound, fewest)
					}
					if isPebbling {
						pebblings++
					}
					if !canMake {
						failures++
					}
				}
			}
		}
	}
	if pebblings < 1000 || failures < 1000 {
		t.Errorf("only %d pebblings and %d failures", pebblings, failures)
	}
}

func TestBestPebblings(t *testing.T) {
	expectPebbling(t, "/0", 2, "l0 c1 s1", 2)
	expectPebbling(t, "/0/1/2/3/4", 2, "l0 c1 d0 c2 d1 c3 d2 c4 d3 c5 s5", 2)
	expectPebbling(t, "/0/1/2/3/4", 6, "l0 c1 c2 c3 c4 c5 s5", 2)
	// Each node has to be in the fast memory at once, in the end.
	expectPebbling(t, "/0/01/012/0123/01234", 6, "l0 c1 c2 c3 c4 c5 s5", 2)
	// Several have as few transfers and moves: the loads come first, and the lesser nodes before the greater ones.
	expectPebbling(t, "//0/1", 4, "l0 l1 c2 s2 c3 s3", 4)
	expectPebbling(t, "//0/1", 2, "l0 c2 s2 d0 l1 d2 c3 s3", 4)
	expectPebbling(t, "/0/0", 3, "l0 c1 s1 c2 s2", 3)
	expectPebbling(t, "/0/0", 2, "l0 c1 s1 d1 c2 s2", 3)
	// The source 0 is loaded again.
	expectPebbling(t, "/0/0/2/1", 2, "l0 c1 d0 c4 s4 d1 l0 d4 c2 d0 c3 s3", 4)
	expectPebbling(t, "/0/0/2/1", 3, "l0 c1 c2 d0 c3 s3 d2 c4 s4", 3)
	// The value 1 is computed again.
	expectPebbling(t, "/0/1/12/02", 3, "l0 c1 c2 d1 c4 s4 d4 c1 d0 c3 s3", 3)
	// The value 2 is stored and loaded again, and with one place more it is not.
	expectPebbling(t, "//01/01/23", 3, "l0 l1 c2 s2 d2 c3 d0 l2 d1 c4 s4", 5)
	expectPebbling(t, "//01/01/23", 4, "l0 l1 c2 c3 d0 c4 s4", 3)
	expectPebbling(t, "/0/01/01/23", 3, "l0 c1 c2 s2 d2 c3 d0 l2 d1 c4 s4", 4)
	for _, graph := range []string{"/0", "//01", "/0/01/012/0123/01234", "////012/34"} {
		least, _ := impl.LeastPlaces(graphFrom(graph))
		best, ok := impl.BestPebbling(graphFrom(graph), least-1)
		n, isOne := impl.LeastTransfers(graphFrom(graph), least-1)
		expect(t, graph, of(best, ok, n, isOne), of([]impl.Move{}, false, 0, false))
	}
}

// TestSearchedPebblings: for all graphs with up to 4 nodes and some others, the best pebblings are those that a search finds.
func TestSearchedPebblings(t *testing.T) {
	graphs := slices.Concat(graphsOf(1), graphsOf(2), graphsOf(3), graphsOf(4))
	for i, g := range graphsOf(5) {
		if i%9 == 4 {
			graphs = append(graphs, g)
		}
	}
	for _, text := range []string{"/0/0/2/1", "/0/1/12/02", "//01/01/23", "/0/01/01/23", "//01/12/02", "/0/1/2/3/4", "////012/34"} {
		graphs = append(graphs, graphFrom(text))
	}
	for _, g := range graphs {
		for places := int64(1); places <= min(impl.MaxNodes, int64(len(g.Before))+1); places++ {
			wanted, fewest, isThere := searchedPebbling(g, places)
			best, one := impl.BestPebbling(g, places)
			n, two := impl.LeastTransfers(g, places)
			if !isThere {
				fewest = 0
			}
			expect(t, fmt.Sprint(g, " with ", places), of(best, one, n, two), of(wanted, isThere, fewest, isThere))
		}
	}
}

// TestTransferBound: the best pebbling is one, has at least the bound, and has no more transfers with more places.
func TestTransferBound(t *testing.T) {
	reached, missed, lessWithMore, sameWithMore := 0, 0, 0, 0
	for _, g := range someGraphs() {
		bound, _ := impl.TransferBound(g)
		least, _ := impl.LeastPlaces(g)
		last := int64(math.MaxInt64)
		for places := least; places <= impl.MaxNodes; places++ {
			best, _ := impl.BestPebbling(g, places)
			n, ok := impl.LeastTransfers(g, places)
			_, transfers, _, isPebbling := toldPebbling(g, places, best)
			if !ok || !isPebbling || !impl.IsPebbling(g, places, best) || transfers != n || n < bound || n > last || len(best) > impl.MaxMoves {
				t.Errorf("%v with %d: %v has %d transfers of %d, bound %d", g, places, best, transfers, n, bound)
			}
			if n == bound {
				reached++
			} else {
				missed++
			}
			if n < last && last < math.MaxInt64 {
				lessWithMore++
			} else if n == last {
				sameWithMore++
			}
			last = n
		}
	}
	if reached == 0 || missed == 0 || lessWithMore == 0 || sameWithMore == 0 {
		t.Errorf("%d bounds reached, %d missed, %d times less with more places, %d times the same", reached, missed, lessWithMore, sameWithMore)
	}
}
