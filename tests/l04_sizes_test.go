package tests

// Promise 5 (chapter 4): one pass gives the misses of all sizes; a stack holds the contents of all memories with ranks; and a
// policy that is not included has a shortest break.

import (
	"fmt"
	"math"
	"slices"
	"testing"

	"loop.example/g01112/impl"
)

// sizesUses are uses for chapter 4, among them none, first ones alone, and one address alone.
func sizesUses() [][]int64 {
	lists := append(manyUses(), countedUp(impl.MaxTrace), nil, []int64{63}, []int64{0, 1, 0, 2, 1}, []int64{5, 2, 9, 2, 5})
	down := countedUp(impl.MaxAddress)
	slices.Reverse(down)
	lists = append(lists, down[:impl.MaxTrace], append(countedUp(impl.MaxTrace-1), 0), append(countedUp(30), countedUp(30)...))
	return append(lists, append(countedUp(30), down[34:]...))
}

// fewUses are some of sizesUses, for checks that take longer.
func fewUses() [][]int64 {
	var few [][]int64
	for i, uses := range sizesUses() {
		if i%16 == 0 || i > 1150 {
			few = append(few, uses)
		}
	}
	return few
}

// distancesFrom returns the distances, by looking back from each use.
func distancesFrom(uses []int64) []int64 {
	var distances []int64
	for at, a := range uses {
		others := map[int64]bool{}
		back := at - 1
		for back >= 0 && uses[back] != a {
			others[uses[back]] = true
			back--
		}
		if back < 0 {
			distances = append(distances, -1)
		} else {
			distances = append(distances, int64(len(others)))
		}
	}
	return distances
}

// lruMisses returns the misses of a memory of a size that replaces what has not been used for the longest time.
func lruMisses(uses []int64, size int) int64 {
	lastUse := map[int64]int{}
	misses := int64(0)
	for at, a := range uses {
		if _, held := lastUse[a]; !held {
			misses++
			if size == 0 {
				continue
			}
			if len(lastUse) == size {
				oldest, when := int64(0), math.MaxInt
				for b, last := range lastUse {
					if last < when {
						oldest, when = b, last
					}
				}
				delete(lastUse, oldest)
			}
		}
		lastUse[a] = at
	}
	return misses
}

// lruMissesUpTo returns the misses for all sizes up to one.
func lruMissesUpTo(uses []int64, most int) []int64 {
	var curve []int64
	for size := range most + 1 {
		curve = append(curve, lruMisses(uses, size))
	}
	return curve
}

func TestSizesLimits(t *testing.T) {
	expect(t, "limits", of(impl.MaxBreak, impl.MaxPrograms), of(8, 4))
}

func TestDistances(t *testing.T) {
	expect(t, "example", of(impl.DistancesOf([]int64{0, 1, 0, 2, 1})), of([]int64{-1, -1, 1, -1, 2}, true))
	expect(t, "none", of(impl.DistancesOf(nil)), of([]int64{}, true))
	expect(t, "first ones", of(impl.DistancesOf([]int64{3, 2, 63, 0})), of([]int64{-1, -1, -1, -1}, true))
	expect(t, "one address", of(impl.DistancesOf([]int64{63, 63, 63})), of([]int64{-1, 0, 0}, true))
	expect(t, "others twice", of(impl.DistancesOf([]int64{4, 5, 6, 5, 6, 4})), of([]int64{-1, -1, -1, 1, 1, 2}, true))
	expect(t, "most of one", of(impl.DistancesOf(repeated(7, impl.MaxTrace))), of(append([]int64{-1}, repeated(0, impl.MaxTrace-1)...), true))
	for _, uses := range sizesUses() {
		expect(t, fmt.Sprint(uses), of(impl.DistancesOf(uses)), of(distancesFrom(uses), true))
	}
}

func TestDistanceCounts(t *testing.T) {
	none := []int64{}
	expect(t, "example", of(impl.DistanceCounts([]int64{0, 1, 0, 2, 1})), of([]int64{0, 1, 1}, true))
	expect(t, "none", of(impl.DistanceCounts(nil)), of(none, true))
	expect(t, "first ones", of(impl.DistanceCounts(countedUp(impl.MaxTrace))), of(none, true))
	expect(t, "one address", of(impl.DistanceCounts(repeated(5, impl.MaxTrace))), of([]int64{59}, true))
	expect(t, "greatest", of(impl.DistanceCounts(append(countedUp(59), 0))), of(append(repeated(0, 58), 1), true))
	for _, uses := range sizesUses() {
		distances := distancesFrom(uses)
		var counts []int64
		if len(uses) > 0 {
			for d := range slices.Max(distances) + 1 {
				counts = append(counts, int64(len(uses)-len(slices.DeleteFunc(slices.Clone(distances), func(e int64) bool { return e == d }))))
			}
		}
		expect(t, fmt.Sprint(uses), of(impl.DistanceCounts(uses)), of(counts, true))
	}
}

func TestStackOf(t *testing.T) {
	expect(t, "example", of(impl.StackOf([]int64{0, 1, 0, 2, 1})), of([]int64{1, 2, 0}, true))
	expect(t, "none", of(impl.StackOf(nil)), of([]int64{}, true))
	expect(t, "one address", of(impl.StackOf(repeated(63, impl.MaxTrace))), of([]int64{63}, true))
	for _, uses := range sizesUses() {
		var stack []int64
		for at := len(uses) - 1; at >= 0; at-- {
			if !slices.Contains(stack, uses[at]) {
				stack = append(stack, uses[at])
			}
		}
		expect(t, fmt.Sprint(uses), of(impl.StackOf(uses)), of(stack, true))
	}
}

func TestLruCurve(t *testing.T) {
	expect(t, "example", of(impl.LruCurve([]int64{0, 1, 0, 2, 1}, 3)), of([]int64{5, 5, 4, 3}, true))
	expect(t, "no size", of(impl.LruCurve([]int64{0, 1, 0, 2, 1}, 0)), of([]int64{5}, true))
	expect(t, "no uses", of(impl.LruCurve(nil, 2)), of([]int64{0, 0, 0}, true))
	expect(t, "one address", of(impl.LruCurve([]int64{9, 9, 9}, 2)), of([]int64{3, 1, 1}, true))
	for _, uses := range fewUses() {
		curve := lruMissesUpTo(uses, impl.MaxTrace)
		for _, most := range []int{0, 1, 2, 7, 59, 60} {
			expect(t, fmt.Sprint(uses, most), of(impl.LruCurve(uses, int64(most))), of(curve[:most+1], true))
		}
		for _, most := range []int64{math.MinInt64, -2, -1, 61, 62, 1 << 32, math.MaxInt64} {
			expect(t, fmt.Sprint(uses, most), of(impl.LruCurve(uses, most)), of([]int64(nil), false))
		}
		for ways := int64(1); ways <= impl.MaxWays; ways++ {
			lru, _ := impl.LruPolicy(ways)
			expect(t, fmt.Sprint("LruPolicy ", ways, uses), of(impl.MissesOf(lru, uses)), of(curve[ways], true))
		}
	}
}

func TestSizeFor(t *testing.T) {
	uses := []int64{0, 1, 0, 2, 1}
	for misses, size := range []int{-1, -1, -1, 3, 2, 0, 0} {
		expect(t, fmt.Sprint("example ", misses), of(impl.SizeFor(uses, int64(misses))), of(max(size, 0), size >= 0))
	}
	expect(t, "no uses", of(impl.SizeFor(nil, 0)), of(0, true))
	expect(t, "no uses", of(impl.SizeFor(nil, impl.MaxTrace)), of(0, true))
	expect(t, "all", of(impl.SizeFor(countedUp(impl.MaxTrace), impl.MaxTrace)), of(0, true))
	expect(t, "one fewer", of(impl.SizeFor(countedUp(impl.MaxTrace), impl.MaxTrace-1)), of(0, false))
	expect(t, "greatest size", of(impl.SizeFor(append(countedUp(59), 0), 59)), of(59, true))
	for _, uses := range fewUses() {
		curve := lruMissesUpTo(uses, impl.MaxTrace)
		for misses := range int64(impl.MaxTrace + 1) {
			size := slices.IndexFunc(curve, func(m int64) bool { return m <= misses })
			expect(t, fmt.Sprint(uses, misses), of(impl.SizeFor(uses, misses)), of(max(size, 0), size >= 0))
		}
		different := int64(countDifferent(uses))
		if _, ok := impl.SizeFor(uses, different); !ok {
			t.Errorf("%v: no size has only the first misses", uses)
		}
		expect(t, fmt.Sprint(uses, " one fewer"), of(impl.SizeFor(uses, different-1)), of(0, false))
		for _, misses := range []int64{math.MinInt64, -2, -1, 61, 62, 1 << 32, math.MaxInt64} {
			expect(t, fmt.Sprint(uses, misses), of(impl.SizeFor(uses, misses)), of(0, false))
		}
	}
}

// manyRanks are the ascending and the descending ranks, and some others.
func manyRanks() [][]int64 {
	down := countedUp(impl.MaxAddress)
	slices.Reverse(down)
	ranks := [][]int64{countedUp(impl.MaxAddress), down}
	for seed := range int64(4) {
		order, _ := impl.SeedOrder(seed+1, impl.MaxAddress)
		ranks = append(ranks, order)
	}
	return ranks
}

// badRanks are no ranks.
func badRanks() [][]int64 {
	all := countedUp(impl.MaxAddress)
	bad := [][]int64{nil, {}, {0}, all[1:], all[:63], append(countedUp(impl.MaxAddress), 64), append(countedUp(impl.MaxAddress), 0), repeated(0, impl.MaxAddress), repeated(0, 5000)}
	for _, at := range []int{0, 1, 31, 63} {
		for _, rank := range []int64{math.MinInt64, -1, 30, 64, 65, 1 << 32, math.MaxInt64} {
			changed := countedUp(impl.MaxAddress)
			changed[at] = rank
			bad = append(bad, changed)
		}
	}
	return bad
}

// rankMemory is a memory with ranks, as the document tells it.
type rankMemory struct {
	ranks []int64
	size  int
	held  map[int64]bool
}

// use uses an address, and reports whether it was a miss.
func (m *rankMemory) use(a int64) bool {
	if m.held[a] {
		return false
	}
	if len(m.held) == m.size {
		greatest := int64(-1)
		for b := range m.held {
			if greatest == -1 || m.ranks[b] > m.ranks[greatest] {
				greatest = b
			}
		}
		delete(m.held, greatest)
	}
	m.held[a] = true
	return true
}

// rankRun returns what is in a memory with ranks after all uses, and the misses.
func rankRun(ranks, uses []int64, size int) ([]int64, int64) {
	m := rankMemory{ranks, size, map[int64]bool{}}
	misses := int64(0)
	for _, a := range uses {
		if m.use(a) {
			misses++
		}
	}
	var held []int64
	for a := range m.held {
		held = append(held, a)
	}
	return sortedSet(held), misses
}

// carried returns the stack after a use, place by place as the document tells it.
func carried(ranks, stack []int64, a int64) []int64 {
	if len(stack) == 0 {
		return []int64{a}
	}
	if stack[0] == a {
		return stack
	}
	after := []int64{a}
	carry := stack[0]
	for _, there := range stack[1:] {
		if there == a {
			return slices.Concat(after, []int64{carry}, stack[len(after)+1:])
		}
		if ranks[there] < ranks[carry] {
			after = append(after, there)
		} else {
			after = append(after, carry)
			carry = there
		}
	}
	return append(after, carry)
}

// carriedStack returns the stack after all uses.
func carriedStack(ranks, uses []int64) []int64 {
	var stack []int64
	for _, a := range uses {
		stack = carried(ranks, stack, a)
	}
	return stack
}

func TestValidRanks(t *testing.T) {
	for _, ranks := range manyRanks() {
		expect(t, fmt.Sprint(ranks), of(impl.ValidRanks(ranks)), of(true))
	}
	var none []int64
	for _, ranks := range badRanks() {
		what := fmt.Sprint(ranks)
		expect(t, what, of(impl.ValidRanks(ranks)), of(false))
		for _, uses := range [][]int64{nil, {1, 2, 1}} {
			expect(t, what, of(impl.RankContents(ranks, uses, 1)), of(none, false))
			expect(t, what, of(impl.RankStack(ranks, uses)), of(none, false))
			expect(t, what, of(impl.RankCurve(ranks, uses, 0)), of(none, false))
		}
	}
}

func TestRankContents(t *testing.T) {
	up := manyRanks()[0]
	expect(t, "example", of(impl.RankContents(up, []int64{5, 2, 9, 2, 5}, 2)), of([]int64{2, 5}, true))
	expect(t, "the added one is greatest", of(impl.RankContents(up, []int64{5, 2, 63}, 2)), of([]int64{2, 63}, true))
	expect(t, "just full", of(impl.RankContents(up, []int64{5, 2, 9}, 3)), of([]int64{2, 5, 9}, true))
	expect(t, "just full and a hit", of(impl.RankContents(up, []int64{5, 2, 9, 9, 2}, 3)), of([]int64{2, 5, 9}, true))
	expect(t, "one too many", of(impl.RankContents(up, []int64{5, 2, 9, 0}, 3)), of([]int64{0, 2, 5}, true))
	expect(t, "no uses", of(impl.RankContents(up, nil, 1)), of([]int64{}, true))
	expect(t, "one place", of(impl.RankContents(up, []int64{5, 2, 9}, 1)), of([]int64{9}, true))
	expect(t, "greatest size", of(impl.RankContents(up, countedUp(impl.MaxTrace), impl.MaxTrace)), of(countedUp(impl.MaxTrace), true))
	for _, size := range []int64{math.MinInt64, -1, 0, 61, 62, 1 << 32, 1<<32 + 1, math.MaxInt64} {
		expect(t, fmt.Sprint("size ", size), of(impl.RankContents(up, []int64{1}, size)), of([]int64(nil), false))
		expect(t, fmt.Sprint("size ", size), of(impl.RankContents(up, nil, size)), of([]int64(nil), false))
	}
}

// TestRankStack: the stack is carried as the document tells it, and its beginnings are the contents of all memories.
func TestRankStack(t *testing.T) {
	up, down := manyRanks()[0], manyRanks()[1]
	stacks := [][]int64{{}, {5}, {2, 5}, {9, 2, 5}, {2, 9, 5}, {5, 2, 9}}
	for n, stack := range stacks {
		expect(t, fmt.Sprint("example ", n), of(impl.RankStack(up, []int64{5, 2, 9, 2, 5}[:n])), of(stack, true))
	}
	expect(t, "first", of(impl.RankStack(up, []int64{1, 7, 4, 4})), of([]int64{4, 1, 7}, true))
	expect(t, "middle", of(impl.RankStack(up, []int64{1, 7, 4, 1})), of([]int64{1, 4, 7}, true))
	expect(t, "end", of(impl.RankStack(up, []int64{1, 7, 4, 7})), of([]int64{7, 1, 4}, true))
	expect(t, "not at all", of(impl.RankStack(up, []int64{1, 7, 4, 5})), of([]int64{5, 1, 4, 7}, true))
	expect(t, "behind the middle", of(impl.RankStack(down, []int64{1, 7, 4, 7, 1, 9, 7})), of([]int64{7, 9, 4, 1}, true))
	for _, ranks := range manyRanks() {
		for _, uses := range fewUses() {
			what := fmt.Sprint(ranks[:3], uses)
			want := carriedStack(ranks, uses)
			expect(t, what, of(impl.RankStack(ranks, uses)), of(want, true))
			curve := []int64{int64(len(uses))}
			for size := 1; size <= impl.MaxTrace; size++ {
				held, misses := rankRun(ranks, uses, size)
				curve = append(curve, misses)
				expect(t, fmt.Sprint(what, size), of(impl.RankContents(ranks, uses, int64(size))), of(held, true))
				expect(t, fmt.Sprint(what, size, " beginning"), of(sortedSet(want[:min(size, len(want))])), of(held))
			}
			for _, most := range []int{0, 1, 5, 59, 60} {
				expect(t, fmt.Sprint(what, most), of(impl.RankCurve(ranks, uses, int64(most))), of(curve[:most+1], true))
			}
			for _, most := range []int64{math.MinInt64, -1, 61, 1 << 32, math.MaxInt64} {
				expect(t, fmt.Sprint(what, most), of(impl.RankCurve(ranks, uses, most)), of([]int64(nil), false))
			}
		}
	}
}

// TestSizesUses: uses that are none make all functions fail.
func TestSizesUses(t *testing.T) {
	up := countedUp(impl.MaxAddress)
	p, _ := impl.LruPolicy(2)
	var none []int64
	for _, uses := range badUses() {
		what := fmt.Sprint(uses)
		expect(t, what, of(impl.DistancesOf(uses)), of(none, false))
		expect(t, what, of(impl.DistanceCounts(uses)), of(none, false))
		expect(t, what, of(impl.StackOf(uses)), of(none, false))
		expect(t, what, of(impl.LruCurve(uses, 0)), of(none, false))
		expect(t, what, of(impl.SizeFor(uses, impl.MaxTrace)), of(0, false))
		expect(t, what, of(impl.RankContents(up, uses, 1)), of(none, false))
		expect(t, what, of(impl.RankStack(up, uses)), of(none, false))
		expect(t, what, of(impl.RankCurve(up, uses, 0)), of(none, false))
		expect(t, what, of(impl.Includes(p, p, uses)), of(false, false))
		expect(t, what, of(impl.FirstBreak(p, p, uses)), of(0, false))
		for _, programs := range [][][]int64{{uses}, {{1}, uses}, {uses, {1}}} {
			expect(t, what, of(impl.BestShares(programs, 1)), of(none, 0, false))
			expect(t, what, of(impl.ShareMisses(programs, countedUp(len(programs)))), of(0, false))
		}
	}
}

// breakAt returns the index of the first use after which p is not included in q, or -1.
func breakAt(p, q impl.Policy, uses []int64) int {
	held, wider := emptyOf(p), emptyOf(q)
	for at, a := range uses {
		held, _ = stepOf(p, held, a)
		wider, _ = stepOf(q, wider, a)
		for _, b := range held {
			if b != -1 && !slices.Contains(wider, b) {
				return at
			}
		}
	}
	return -1
}

// inclusionPolicies are policies of all ways, so that they can be paired.
func inclusionPolicies() []impl.Policy {
	many := append(knownPolicies(), seededPolicies(2, 3)...)
	return append(many, append(seededPolicies(3, 3), seededPolicies(5, 2)...)...)
}

func TestIncludes(t *testing.T) {
	lists := [][]int64{nil, {63}, {0, 1, 2, 0, 3}, {7, 6, 5, 7, 3, 4}, countedUp(impl.MaxTrace), repeated(63, impl.MaxTrace)}
	for seed := range uint64(4) {
		lists = append(lists, drawn(seed+300, impl.MaxTrace, int64(2+2*seed)), drawn(seed+310, 9, int64(3+seed)))
	}
	included := 0
	for _, p := range inclusionPolicies() {
		for _, q := range inclusionPolicies() {
			for _, uses := range lists {
				what := fmt.Sprint(textOf(p), " ", textOf(q), uses)
				at := breakAt(p, q, uses)
				expect(t, what, of(impl.Includes(p, q, uses)), of(at < 0, true))
				expect(t, what, of(impl.FirstBreak(p, q, uses)), of(max(at, 0), at >= 0))
				if at < 0 {
					included++
				}
			}
		}
	}
	if included < 1000 {
		t.Errorf("only %d are included", included)
	}
	for _, bad := range badPolicies() {
		for _, good := range []impl.Policy{bad, policyWithText("01/10|10")} {
			for _, uses := range [][]int64{nil, {0, 1}} {
				what := fmt.Sprint(bad, good, uses)
				expect(t, what, of(impl.Includes(bad, good, uses)), of(false, false))
				expect(t, what, of(impl.Includes(good, bad, uses)), of(false, false))
				expect(t, what, of(impl.FirstBreak(bad, good, uses)), of(0, false))
				expect(t, what, of(impl.FirstBreak(good, bad, uses)), of(0, false))
			}
			expect(t, fmt.Sprint(bad, good), of(impl.ShortestBreak(bad, good)), of([]int64(nil), false))
			expect(t, fmt.Sprint(good, bad), of(impl.ShortestBreak(good, bad)), of([]int64(nil), false))
		}
	}
}

// reached is what some uses leave with two policies.
type reached struct {
	uses, held, wider []int64
	names             int64
}

// firstBroken returns the first of all uses with small names, of at most a length, for which p is not included in q.
func firstBroken(p, q impl.Policy, length int) ([]int64, bool) {
	level := []reached{{held: emptyOf(p), wider: emptyOf(q)}}
	for range length {
		var next []reached
		for _, r := range level {
			for a := range r.names + 1 {
				held, _ := stepOf(p, r.held, a)
				wider, _ := stepOf(q, r.wider, a)
				uses := append(slices.Clone(r.uses), a)
				for _, b := range held {
					if b != -1 && !slices.Contains(wider, b) {
						return uses, true
					}
				}
				next = append(next, reached{uses, held, wider, max(r.names, a+1)})
			}
		}
		level = next
	}
	return nil, false
}

func TestShortestBreak(t *testing.T) {
	lengths := map[int]int{}
	for i, p := range inclusionPolicies() {
		for j, q := range inclusionPolicies() {
			if (i+j)%3 != 0 {
				continue
			}
			uses, ok := firstBroken(p, q, impl.MaxBreak)
			expect(t, textOf(p)+" "+textOf(q), of(impl.ShortestBreak(p, q)), of(uses, ok))
			lengths[len(uses)]++
		}
	}
	for _, length := range []int{0, 2, 3, 4, 5, 6} {
		if lengths[length] == 0 {
			t.Errorf("no break has the length %d: %v", length, lengths)
		}
	}
}

// TestBreakLengths: breaks at the first use at which one is possible, at the last one, and behind it.
func TestBreakLengths(t *testing.T) {
	var none []int64
	for ways := int64(1); ways <= impl.MaxWays; ways++ {
		p, _ := impl.LruPolicy(ways)
		for more := int64(1); more <= impl.MaxWays; more++ {
			q, _ := impl.LruPolicy(more)
			if ways <= more {
				expect(t, fmt.Sprint("lru ", ways, more), of(impl.ShortestBreak(p, q)), of(none, false))
			} else {
				expect(t, fmt.Sprint("lru ", ways, more), of(impl.ShortestBreak(p, q)), of(countedUp(int(more+1)), true))
			}
		}
		if ways < impl.MaxWays {
			p, _ := impl.FifoPolicy(ways)
			q, _ := impl.FifoPolicy(ways + 1)
			if ways == 1 {
				expect(t, "fifo 1 2", of(impl.ShortestBreak(p, q)), of(none, false))
			} else {
				want := append(countedUp(int(ways+1)), 0, ways+1)
				expect(t, fmt.Sprint("fifo ", ways), of(impl.ShortestBreak(p, q)), of(want, true))
			}
		}
	}
	two, _ := impl.LruPolicy(2)
	one, _ := impl.LruPolicy(1)
	expect(t, "at once", of(impl.ShortestBreak(two, one)), of([]int64{0, 1}, true))
	lru, _ := impl.LruPolicy(6)
	eight := policyWithText("012345/102345/201345/301245/401235/501243|501234")
	nine := policyWithText("012345/102345/201345/301245/401235/501324|501234")
	for i, late := range []impl.Policy{eight, nine} {
		uses := append(countedUp(6), 0, 6, 7)[:8+i]
		for _, pair := range [][2]impl.Policy{{lru, late}, {late, lru}} {
			what := textOf(pair[0]) + " " + textOf(pair[1])
			expect(t, what, of(impl.FirstBreak(pair[0], pair[1], uses)), of(7+i, true))
			if i == 0 {
				expect(t, what, of(impl.ShortestBreak(pair[0], pair[1])), of(uses, true))
			} else {
				expect(t, what, of(impl.ShortestBreak(pair[0], pair[1])), of(none, false))
			}
		}
	}
}

// allShares returns all lists of shares of a length with a sum, the lexicographically least first.
func allShares(length int, sum int64) [][]int64 {
	if length == 1 {
		return [][]int64{{sum}}
	}
	var all [][]int64
	for share := range sum + 1 {
		for _, behind := range allShares(length-1, sum-share) {
			all = append(all, append([]int64{share}, behind...))
		}
	}
	return all
}

// manyPrograms are programs of all numbers, also without uses.
func manyPrograms() [][][]int64 {
	many := [][][]int64{{nil}, {{7}}, {nil, nil}, {nil, {1, 1}, nil}, {{0, 1, 0, 1, 0, 1}, {5, 5, 5}}, {{1, 2, 1, 2}, {1, 2, 1, 2}, {1, 2, 1, 2}}, {repeated(1, impl.MaxTrace), countedUp(impl.MaxTrace)},
		{{0, 1, 2, 0, 1, 2, 0, 1, 2}, {0, 1, 2, 3, 0, 1, 2, 3}, {4, 5, 4, 5, 4, 5}, {9, 9, 9}}, {nil, nil, nil, nil}}
	for seed := range uint64(12) {
		var programs [][]int64
		for i := range seed%4 + 1 {
			programs = append(programs, drawn(400+seed*5+i, int(10+seed*4), int64(2+seed+i)))
		}
		many = append(many, programs)
	}
	return many
}

func TestShares(t *testing.T) {
	for _, programs := range manyPrograms() {
		var curves [][]int64
		for _, uses := range programs {
			curves = append(curves, lruMissesUpTo(uses, impl.MaxTrace))
		}
		for _, total := range []int64{0, 1, 2, 3, 5, 8, 17, 60} {
			if len(programs) == 4 && total > 17 {
				continue
			}
			var best []int64
			least := int64(math.MaxInt64)
			for n, shares := range allShares(len(programs), total) {
				misses := int64(0)
				for i, share := range shares {
					misses += curves[i][share]
				}
				if n%97 == 0 {
					expect(t, fmt.Sprint(programs, shares), of(impl.ShareMisses(programs, shares)), of(misses, true))
				}
				if misses < least {
					best, least = shares, misses
				}
			}
			what := fmt.Sprint(programs, total)
			expect(t, what, of(impl.BestShares(programs, total)), of(best, least, true))
			expect(t, what, of(impl.ShareMisses(programs, best)), of(least, true))
		}
	}
}

func TestBestShares(t *testing.T) {
	list := [][]int64{{0, 1, 0, 1, 0, 1}, {5, 5, 5}}
	var none []int64
	expect(t, "example", of(impl.BestShares(list, 3)), of([]int64{2, 1}, 3, true))
	expect(t, "example", of(impl.BestShares(list, 1)), of([]int64{0, 1}, 7, true))
	expect(t, "nothing", of(impl.BestShares(list, 0)), of([]int64{0, 0}, 9, true))
	expect(t, "too much", of(impl.BestShares(list, impl.MaxTrace)), of([]int64{2, 58}, 3, true))
	expect(t, "several", of(impl.BestShares([][]int64{{1, 1}, {2, 2}, {3, 3}}, 2)), of([]int64{0, 1, 1}, 4, true))
	expect(t, "one", of(impl.BestShares([][]int64{{1, 2, 1}}, impl.MaxTrace)), of([]int64{60}, 2, true))
	four := [][]int64{{1, 1}, {2, 2}, {3, 3}, {4, 4}}
	expect(t, "four", of(impl.BestShares(four, impl.MaxTrace)), of([]int64{1, 1, 1, 57}, 4, true))
	expect(t, "five", of(impl.BestShares(append(four, []int64{5}), 4)), of(none, 0, false))
	expect(t, "five", of(impl.ShareMisses(append(four, []int64{5}), repeated(1, 5))), of(0, false))
	expect(t, "none", of(impl.BestShares(nil, 0)), of(none, 0, false))
	expect(t, "none", of(impl.BestShares(nil, 5)), of(none, 0, false))
	for _, total := range []int64{math.MinInt64, -1, 61, 62, 1 << 32, math.MaxInt64} {
		expect(t, fmt.Sprint("total ", total), of(impl.BestShares(list, total)), of(none, 0, false))
	}
}

func TestShareMisses(t *testing.T) {
	list := [][]int64{{0, 1, 0, 1, 0, 1}, {5, 5, 5}}
	expect(t, "example", of(impl.ShareMisses(list, []int64{1, 1})), of(7, true))
	expect(t, "nothing", of(impl.ShareMisses(list, []int64{0, 0})), of(9, true))
	expect(t, "most", of(impl.ShareMisses(list, []int64{60, 60})), of(3, true))
	expect(t, "no programs", of(impl.ShareMisses(nil, nil)), of(0, true))
	expect(t, "a share of none", of(impl.ShareMisses(nil, []int64{0})), of(0, false))
	for _, shares := range [][]int64{nil, {1}, {1, 1, 1}, {1, 1, 0}, {-1, 1}, {1, -1}, {61, 1}, {1, 61}, {1, math.MaxInt64}, {math.MinInt64, 1}, {1 << 32, 1}} {
		expect(t, fmt.Sprint(shares), of(impl.ShareMisses(list, shares)), of(0, false))
	}
}
