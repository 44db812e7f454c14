package tests

// Promise 6 (chapter 5): no policy has fewer misses than the optimal replacement, intervals and cuts prove it, and rivals have
// at most the known multiple.

import (
	"fmt"
	"math"
	"slices"
	"testing"

	"loop.example/g01112/impl"
)

// optimalUses are uses for chapter 5, among them none, first ones alone, and one address alone.
func optimalUses() [][]int64 {
	lists := [][]int64{nil, {0}, {63}, {63, 63}, {0, 1, 2, 0, 1}, {2, 1, 0, 2, 1}, countedUp(impl.MaxTrace), repeated(7, impl.MaxTrace), append(countedUp(59), 0), append(countedUp(30), countedUp(30)...)}
	down := countedUp(30)
	slices.Reverse(down)
	lists = append(lists, append(countedUp(30), down...))
	for seed := range uint64(12) {
		lists = append(lists, drawn(seed, impl.MaxTrace, int64(2+seed)), drawn(seed+40, 30, int64(4+seed)), drawn(seed+80, impl.MaxTrace, int64(16+4*seed)))
	}
	return lists
}

// shortUses are all uses up to a length whose addresses are numbered in the order of their first uses, and some of them again
// with other addresses.
func shortUses(length int) [][]int64 {
	lists := slices.Concat(namesUpTo(length)...)
	for i, uses := range lists {
		if i%3 == 0 {
			other := slices.Clone(uses)
			for at := range other {
				other[at] = (other[at]*37 + 63) % impl.MaxAddress
			}
			lists = append(lists, other)
		}
	}
	return lists
}

// busyUses are uses of few addresses, for which all choices can be tried.
func busyUses() [][]int64 {
	var lists [][]int64
	for seed := range uint64(12) {
		lists = append(lists, drawn(seed, 30, 5+int64(seed%4)), drawn(seed+20, impl.MaxTrace, 6+int64(seed%3)))
	}
	return lists
}

// badWays are no ways.
func badWays() []int64 {
	return []int64{math.MinInt64, -2, -1, 0, 7, 8, 1 << 32, 1<<32 + 2, math.MaxInt64}
}

// contentsAfter returns all sets of addresses, each with its bit, that one set can become by a miss.
func contentsAfter(set uint64, a int64, ways int, mayPass bool) []uint64 {
	var after, fuller []uint64
	for b := range int64(impl.MaxAddress) {
		if set>>b&1 == 1 {
			fuller = append(fuller, set&^(1<<b)|1<<a)
		}
	}
	if mayPass {
		after = append(after, set)
	}
	if len(fuller) < ways {
		return append(after, set|1<<a)
	}
	return append(after, fuller...)
}

// leastOfAll returns the least number of misses of all choices, by trying all of them.
func leastOfAll(uses []int64, ways int, mayPass bool) int64 {
	least := map[uint64]int64{0: 0}
	for _, a := range uses {
		after := map[uint64]int64{}
		for set, misses := range least {
			reached := []uint64{set}
			if set>>a&1 == 0 {
				reached = contentsAfter(set, a, ways, mayPass)
				misses++
			}
			for _, next := range reached {
				if before, ok := after[next]; !ok || misses < before {
					after[next] = misses
				}
			}
		}
		least = after
	}
	fewest := int64(math.MaxInt64)
	for _, misses := range least {
		fewest = min(fewest, misses)
	}
	return fewest
}

// victimsOf returns what is replaced by each use in the document's way, and which uses are hits.
func victimsOf(uses []int64, ways int) ([]int64, []bool) {
	var held, victims []int64
	var hits []bool
	for at, a := range uses {
		hit := slices.Contains(held, a)
		victim := int64(-1)
		if !hit && len(held) == ways {
			slices.Sort(held)
			latest := -1
			for _, b := range held {
				next := slices.Index(uses[at:], b)
				if next < 0 {
					next = math.MaxInt
				}
				if next > latest {
					latest, victim = next, b
				}
			}
			held = slices.DeleteFunc(held, func(b int64) bool { return b == victim })
		}
		if !hit {
			held = append(held, a)
		}
		victims, hits = append(victims, victim), append(hits, hit)
	}
	return victims, hits
}

// pairsOfUses returns the intervals, by trying all pairs of uses.
func pairsOfUses(uses []int64) [][]int64 {
	var pairs [][]int64
	for i := range uses {
		for j := i + 1; j < len(uses); j++ {
			if uses[i] == uses[j] && !slices.Contains(uses[i+1:j], uses[i]) {
				pairs = append(pairs, []int64{int64(i), int64(j)})
			}
		}
	}
	return pairs
}

// canKeep reports whether some of the intervals can be kept, by counting those that cross each use.
func canKeep(uses int, ways int, pairs [][]int64, set []int64) bool {
	crossing := make([]int, uses+1)
	for _, number := range set {
		for use := pairs[number][0] + 1; use < pairs[number][1]; use++ {
			crossing[use]++
		}
	}
	return slices.Max(crossing) < ways
}

// boundOf returns the number of hits that cuts do not exclude.
func boundOf(ways int, pairs [][]int64, cuts []int64) int {
	bound := len(cuts) * (ways - 1)
	for _, pair := range pairs {
		if !slices.ContainsFunc(cuts, func(cut int64) bool { return pair[0] < cut && cut < pair[1] }) {
			bound++
		}
	}
	return bound
}

// subsetsOf returns all sets of numbers below some number.
func subsetsOf(below int) [][]int64 {
	var sets [][]int64
	for bits := range 1 << below {
		var set []int64
		for n := range int64(below) {
			if bits>>n&1 == 1 {
				set = append(set, n)
			}
		}
		sets = append(sets, set)
	}
	return sets
}

// isBetterCut reports whether cuts with a bound come before other ones.
func isBetterCut(bound int, cuts []int64, otherBound int, other []int64) bool {
	if bound != otherBound {
		return bound < otherBound
	}
	if len(cuts) != len(other) {
		return len(cuts) < len(other)
	}
	return slices.Compare(cuts, other) < 0
}

func TestBestMisses(t *testing.T) {
	uses := []int64{0, 1, 2, 0, 1}
	for ways, misses := range []int{0, 5, 4, 3, 3, 3, 3, 0} {
		expect(t, fmt.Sprint("example ", ways), of(impl.BestMisses(uses, int64(ways))), of(misses, ways >= 1 && ways <= 6))
	}
	expect(t, "no uses", of(impl.BestMisses(nil, 1)), of(0, true))
	expect(t, "first uses", of(impl.BestMisses(countedUp(impl.MaxTrace), impl.MaxWays)), of(60, true))
	expect(t, "one address", of(impl.BestMisses(repeated(63, impl.MaxTrace), 1)), of(1, true))
	expect(t, "more ways than addresses", of(impl.BestMisses([]int64{1, 2, 1, 2, 1}, impl.MaxWays)), of(2, true))
	for _, uses := range append(shortUses(7), busyUses()...) {
		for ways := 1; ways <= impl.MaxWays; ways++ {
			expect(t, fmt.Sprint(uses, ways), of(impl.BestMisses(uses, int64(ways))), of(leastOfAll(uses, ways, false), true))
		}
	}
}

func TestBypassMisses(t *testing.T) {
	expect(t, "no uses", of(impl.BypassMisses(nil, 1)), of(0, true))
	expect(t, "one way", of(impl.BypassMisses([]int64{0, 1, 2, 0, 1}, 1)), of(4, true))
	expect(t, "two ways", of(impl.BypassMisses([]int64{0, 1, 2, 0, 1}, 2)), of(3, true))
	expect(t, "better", of(impl.BypassMisses([]int64{0, 1, 0, 2, 0, 3, 0}, 1)), of(4, true))
	expect(t, "without", of(impl.BestMisses([]int64{0, 1, 0, 2, 0, 3, 0}, 1)), of(7, true))
	expect(t, "not better", of(impl.BypassMisses([]int64{0, 0, 1, 1}, 1)), of(2, true))
	expect(t, "first uses", of(impl.BypassMisses(countedUp(impl.MaxTrace), impl.MaxWays)), of(60, true))
	expect(t, "one address", of(impl.BypassMisses(repeated(63, impl.MaxTrace), 1)), of(1, true))
	for _, uses := range append(shortUses(7), busyUses()...) {
		for ways := 1; ways <= impl.MaxWays; ways++ {
			expect(t, fmt.Sprint(uses, ways), of(impl.BypassMisses(uses, int64(ways))), of(leastOfAll(uses, ways, true), true))
		}
	}
	for _, uses := range optimalUses() {
		for ways := int64(1); ways <= impl.MaxWays; ways++ {
			best, _ := impl.BestMisses(uses, ways)
			misses, ok := impl.BypassMisses(uses, ways)
			// With one more way, all that is put nowhere can be put there.
			more, isMore := impl.BestMisses(uses, ways+1)
			if !ok || misses > best || isMore && misses < more || misses < int64(countDifferent(uses)) {
				t.Errorf("%v, %d ways: %d misses with the choice to put an address nowhere, %d without", uses, ways, misses, best)
			}
		}
	}
}

func TestBestVictims(t *testing.T) {
	expect(t, "example", of(impl.BestVictims([]int64{0, 1, 2, 0, 1}, 2)), of([]int64{-1, -1, 1, -1, 0}, true))
	expect(t, "no uses", of(impl.BestVictims(nil, 1)), of([]int64{}, true))
	expect(t, "one never again", of(impl.BestVictims([]int64{5, 3, 4, 5, 4}, 2)), of([]int64{-1, -1, 3, -1, -1}, true))
	expect(t, "several never again", of(impl.BestVictims([]int64{5, 9, 3, 4, 5}, 3)), of([]int64{-1, -1, -1, 3, -1}, true))
	expect(t, "all never again", of(impl.BestVictims([]int64{9, 3, 5, 0, 63, 1}, 3)), of([]int64{-1, -1, -1, 3, 0, 5}, true))
	expect(t, "never again after a hit", of(impl.BestVictims([]int64{8, 4, 8, 4, 1, 2, 1}, 2)), of([]int64{-1, -1, -1, -1, 4, 8, -1}, true))
	expect(t, "very next", of(impl.BestVictims([]int64{1, 2, 3, 2, 1}, 2)), of([]int64{-1, -1, 1, -1, 2}, true))
	expect(t, "very next with one way", of(impl.BestVictims([]int64{4, 4, 2, 4}, 1)), of([]int64{-1, -1, 4, 2}, true))
	expect(t, "more ways than addresses", of(impl.BestVictims([]int64{4, 4, 2, 4}, 3)), of(repeated(-1, 4), true))
	expect(t, "one address", of(impl.BestVictims(repeated(63, impl.MaxTrace), 1)), of(repeated(-1, impl.MaxTrace), true))
	for _, uses := range append(shortUses(7), append(busyUses(), optimalUses()...)...) {
		for ways := 1; ways <= impl.MaxWays; ways++ {
			victims, hits := victimsOf(uses, ways)
			expect(t, fmt.Sprint(uses, ways), of(impl.BestVictims(uses, int64(ways))), of(victims, true))
			misses := len(slices.DeleteFunc(hits, func(hit bool) bool { return hit }))
			expect(t, fmt.Sprint(uses, ways), of(impl.BestMisses(uses, int64(ways))), of(misses, true))
		}
	}
}

func TestBestCurve(t *testing.T) {
	expect(t, "example", of(impl.BestCurve([]int64{0, 1, 2, 0, 1})), of([]int64{5, 4, 3, 3, 3, 3}, true))
	expect(t, "no uses", of(impl.BestCurve(nil)), of(repeated(0, 6), true))
	expect(t, "first uses", of(impl.BestCurve(countedUp(impl.MaxTrace))), of(repeated(60, 6), true))
	for _, uses := range append(shortUses(6), optimalUses()...) {
		var curve []int64
		for ways := int64(1); ways <= impl.MaxWays; ways++ {
			misses, _ := impl.BestMisses(uses, ways)
			curve = append(curve, misses)
		}
		expect(t, fmt.Sprint(uses), of(impl.BestCurve(uses)), of(curve, true))
		for i := 1; i < len(curve); i++ {
			if curve[i] > curve[i-1] {
				t.Errorf("%v: more ways have more misses: %v", uses, curve)
			}
		}
	}
}

// TestBestOfPolicies: no policy has fewer misses than the optimal replacement.
func TestBestOfPolicies(t *testing.T) {
	lists := append(optimalUses(), busyUses()...)
	for _, p := range manyPolicies() {
		for _, uses := range lists {
			misses, _ := impl.MissesOf(p, uses)
			least, ok := impl.BestMisses(uses, int64(len(p.Miss)))
			if !ok || least > misses {
				t.Errorf("%s has %d misses, but the least number is %d, for %v", textOf(p), misses, least, uses)
			}
		}
	}
	for i, p := range allPolicies(3) {
		uses := lists[i%len(lists)]
		misses, _ := impl.MissesOf(p, uses)
		if least, ok := impl.BestMisses(uses, 3); !ok || least > misses {
			t.Errorf("%s has %d misses, but the least number is %d, for %v", textOf(p), misses, least, uses)
		}
	}
}

// TestRivals: LruPolicy and FifoPolicy have at most as many times the least number of misses as they have ways, as they have at
// most one miss a way in each phase, in which at least one is needed. Others may have more.
func TestRivals(t *testing.T) {
	for _, uses := range append(optimalUses(), append(busyUses(), shortUses(7)...)...) {
		for ways := int64(1); ways <= impl.MaxWays; ways++ {
			least, _ := impl.BestMisses(uses, ways)
			phases, _ := impl.PhasesOf(uses, ways)
			if least < int64(len(phases)) {
				t.Errorf("%v, %d ways: the phases %v need more than %d misses", uses, ways, phases, least)
			}
			lru, _ := impl.LruPolicy(ways)
			fifo, _ := impl.FifoPolicy(ways)
			for _, p := range []impl.Policy{lru, fifo} {
				a, b, ok := impl.RatioOf(p, uses)
				if ok != (len(uses) > 0) || a < b || a > ways*b {
					t.Errorf("%s: the ratio is %d / %d for %v", textOf(p), a, b, uses)
				}
			}
		}
	}
	mru, _ := impl.MruPolicy(2)
	uses := []int64{5}
	for len(uses) < impl.MaxTrace {
		uses = append(uses, int64(len(uses)%2))
	}
	expect(t, "a greater multiple", of(impl.RatioOf(mru, uses)), of(20, 1, true))
}

func TestRatioOf(t *testing.T) {
	lru, _ := impl.LruPolicy(2)
	expect(t, "example", of(impl.RatioOf(lru, []int64{0, 1, 2, 0, 1})), of(5, 4, true))
	expect(t, "lowest terms", of(impl.RatioOf(lru, []int64{0, 1, 2, 0, 1, 2})), of(3, 2, true))
	expect(t, "as good", of(impl.RatioOf(lru, []int64{0, 1, 0, 1})), of(1, 1, true))
	for _, p := range manyPolicies() {
		what := textOf(p)
		expect(t, what, of(impl.RatioOf(p, nil)), of(0, 0, false))
		expect(t, what, of(impl.RatioOf(p, countedUp(impl.MaxTrace))), of(1, 1, true))
		for _, uses := range busyUses() {
			misses, _ := impl.MissesOf(p, uses)
			least, _ := impl.BestMisses(uses, int64(len(p.Miss)))
			a, b, ok := impl.RatioOf(p, uses)
			if !ok || a*least != misses*b || b < 1 || b > least {
				t.Errorf("%s: %d / %d, %v, for %d and %d misses", what, a, b, ok, misses, least)
			}
			for divisor := int64(2); divisor <= b; divisor++ {
				if a%divisor == 0 && b%divisor == 0 {
					t.Errorf("%s: %d / %d is not in lowest terms", what, a, b)
				}
			}
		}
	}
	for _, p := range badPolicies() {
		for _, uses := range [][]int64{nil, {1}, {0, 1, 2, 0, 1}} {
			expect(t, fmt.Sprint(p), of(impl.RatioOf(p, uses)), of(0, 0, false))
		}
	}
}

func TestIntervalsOf(t *testing.T) {
	none := [][]int64{}
	expect(t, "example", of(impl.IntervalsOf([]int64{0, 1, 2, 0, 1})), of([][]int64{{0, 3}, {1, 4}}, true))
	expect(t, "no uses", of(impl.IntervalsOf(nil)), of(none, true))
	expect(t, "first uses", of(impl.IntervalsOf(countedUp(impl.MaxTrace))), of(none, true))
	expect(t, "neighbours", of(impl.IntervalsOf([]int64{63, 63, 63})), of([][]int64{{0, 1}, {1, 2}}, true))
	expect(t, "one inside", of(impl.IntervalsOf([]int64{0, 1, 1, 0, 1})), of([][]int64{{0, 3}, {1, 2}, {2, 4}}, true))
	for _, uses := range append(shortUses(7), append(busyUses(), optimalUses()...)...) {
		pairs := pairsOfUses(uses)
		if len(pairs) != len(uses)-countDifferent(uses) {
			t.Errorf("%v has the intervals %v", uses, pairs)
		}
		expect(t, fmt.Sprint(uses), of(impl.IntervalsOf(uses)), of(pairs, true))
	}
}

func TestIsKept(t *testing.T) {
	// All three intervals cross the use 3.
	uses := []int64{0, 1, 2, 3, 0, 1, 2}
	for ways := int64(0); ways <= 7; ways++ {
		isWays := ways >= 1 && ways <= impl.MaxWays
		expect(t, fmt.Sprint("none ", ways), of(impl.IsKept(uses, ways, nil)), of(isWays))
		expect(t, fmt.Sprint("one ", ways), of(impl.IsKept(uses, ways, []int64{1})), of(isWays && ways >= 2))
		expect(t, fmt.Sprint("two ", ways), of(impl.IsKept(uses, ways, []int64{0, 2})), of(isWays && ways >= 3))
		expect(t, fmt.Sprint("three ", ways), of(impl.IsKept(uses, ways, []int64{0, 1, 2})), of(isWays && ways >= 4))
	}
	for _, set := range [][]int64{{1, 0}, {2, 1, 0}, {0, 2, 1}, {0, 0}, {1, 1, 2}, {-1}, {-1, 0}, {3}, {0, 3}, {4}, {0, math.MaxInt64}, {math.MinInt64, 1}, {1 << 32}, {0, 1<<32 + 1}, repeated(0, 5000)} {
		expect(t, fmt.Sprint(set), of(impl.IsKept(uses, impl.MaxWays, set)), of(false))
	}
	expect(t, "no intervals", of(impl.IsKept(countedUp(9), 1, nil), impl.IsKept(countedUp(9), 1, []int64{0}), impl.IsKept(nil, 1, nil), impl.IsKept(nil, 6, []int64{0})), of(true, false, true, false))
	expect(t, "neighbours", of(impl.IsKept(repeated(63, impl.MaxTrace), 1, countedUp(59)), impl.IsKept(repeated(63, impl.MaxTrace), 1, countedUp(60))), of(true, false))
	// An interval crosses neither of its own uses.
	expect(t, "one behind the other", of(impl.IsKept([]int64{0, 1, 0, 2, 0}, 2, []int64{0, 1}), impl.IsKept([]int64{0, 1, 0, 2, 0}, 1, []int64{0})), of(true, false))
	expect(t, "one at the end", of(impl.IsKept([]int64{0, 1, 0, 1}, 2, []int64{0, 1})), of(true))
	for _, uses := range shortUses(7) {
		pairs := pairsOfUses(uses)
		for _, set := range subsetsOf(len(pairs)) {
			for ways := 1; ways <= impl.MaxWays; ways++ {
				expect(t, fmt.Sprint(uses, ways, set), of(impl.IsKept(uses, int64(ways), set)), of(canKeep(len(uses), ways, pairs, set)))
			}
		}
	}
	for seed, uses := range append(busyUses(), optimalUses()...) {
		pairs := pairsOfUses(uses)
		for ways := 1; ways <= impl.MaxWays; ways++ {
			var set []int64
			for number, chosen := range drawn(uint64(seed), len(pairs), 7) {
				if chosen <= int64(ways) {
					set = append(set, int64(number))
				}
			}
			expect(t, fmt.Sprint(uses, ways, set), of(impl.IsKept(uses, int64(ways), set)), of(canKeep(len(uses), ways, pairs, set)))
		}
	}
}

// TestKeptIntervals: they are those with hits, they can be kept, and no set with more intervals can.
func TestKeptIntervals(t *testing.T) {
	expect(t, "example", of(impl.KeptIntervals([]int64{0, 1, 2, 0, 1}, 2)), of([]int64{0}, true))
	expect(t, "no uses", of(impl.KeptIntervals(nil, 1)), of([]int64{}, true))
	expect(t, "first uses", of(impl.KeptIntervals(countedUp(impl.MaxTrace), impl.MaxWays)), of([]int64{}, true))
	expect(t, "one address", of(impl.KeptIntervals(repeated(0, impl.MaxTrace), 1)), of(countedUp(59), true))
	expect(t, "one of three", of(impl.KeptIntervals([]int64{0, 1, 1, 0, 1}, 1)), of([]int64{1}, true))
	expect(t, "all", of(impl.KeptIntervals([]int64{0, 1, 1, 0, 1}, 2)), of([]int64{0, 1, 2}, true))
	for i, uses := range append(shortUses(7), append(busyUses(), optimalUses()...)...) {
		pairs := pairsOfUses(uses)
		for ways := 1; ways <= impl.MaxWays; ways++ {
			what := fmt.Sprint(uses, ways)
			_, hits := victimsOf(uses, ways)
			var kept []int64
			for number, pair := range pairs {
				if hits[pair[1]] {
					kept = append(kept, int64(number))
				}
			}
			expect(t, what, of(impl.KeptIntervals(uses, int64(ways))), of(kept, true))
			misses, _ := impl.BestMisses(uses, int64(ways))
			expect(t, what, of(len(uses)-len(kept), impl.IsKept(uses, int64(ways), kept)), of(misses, true))
			if len(pairs) > 6 || i%4 != 0 {
				continue
			}
			for _, set := range subsetsOf(len(pairs)) {
				if len(set) > len(kept) && impl.IsKept(uses, int64(ways), set) {
					t.Errorf("%s: %v can be kept, but only %v are", what, set, kept)
				}
			}
		}
	}
}

func TestHitBound(t *testing.T) {
	uses := []int64{0, 1, 2, 0, 1}
	expect(t, "example", of(impl.HitBound(uses, 2, []int64{2})), of(1, true))
	expect(t, "no cuts", of(impl.HitBound(uses, 2, nil)), of(2, true))
	expect(t, "all cuts", of(impl.HitBound(uses, 3, countedUp(5))), of(10, true))
	expect(t, "one way", of(impl.HitBound(uses, 1, []int64{2})), of(0, true))
	expect(t, "at the ends", of(impl.HitBound(uses, 2, []int64{0, 4})), of(4, true))
	expect(t, "no uses", of(impl.HitBound(nil, 6, nil)), of(0, true))
	expect(t, "neighbours", of(impl.HitBound(repeated(63, impl.MaxTrace), impl.MaxWays, countedUp(impl.MaxTrace))), of(60*5+59, true))
	for _, cuts := range [][]int64{{2, 1}, {0, 2, 1}, {1, 1}, {0, 2, 2}, {-1}, {-1, 0}, {5}, {0, 5}, {6}, {0, math.MaxInt64}, {math.MinInt64, 1}, {1 << 32}, {0, 1<<32 + 1}, repeated(0, 5000)} {
		expect(t, fmt.Sprint(cuts), of(impl.HitBound(uses, 2, cuts)), of(0, false))
	}
	expect(t, "a cut without uses", of(impl.HitBound(nil, 2, []int64{0})), of(0, false))
	for i, uses := range shortUses(6) {
		pairs := pairsOfUses(uses)
		ways := i%impl.MaxWays + 1
		kept, _ := impl.KeptIntervals(uses, int64(ways))
		for _, cuts := range subsetsOf(len(uses)) {
			what := fmt.Sprint(uses, ways, cuts)
			bound := boundOf(ways, pairs, cuts)
			expect(t, what, of(impl.HitBound(uses, int64(ways), cuts)), of(bound, true))
			if bound < len(kept) {
				t.Errorf("%s: the bound is %d, but there are %d hits", what, bound, len(kept))
			}
		}
	}
}

func TestBestCuts(t *testing.T) {
	none := []int64{}
	uses := []int64{0, 1, 2, 0, 1}
	expect(t, "example", of(impl.BestCuts(uses, 2)), of([]int64{2}, true))
	expect(t, "all hits", of(impl.BestCuts(uses, 3)), of(none, true))
	expect(t, "one way", of(impl.BestCuts(uses, 1)), of([]int64{2}, true))
	expect(t, "no uses", of(impl.BestCuts(nil, 1)), of(none, true))
	expect(t, "first uses", of(impl.BestCuts(countedUp(impl.MaxTrace), 1)), of(none, true))
	expect(t, "one address", of(impl.BestCuts(repeated(0, impl.MaxTrace), 1)), of(none, true))
	// Cutting at 2 or at 3 excludes the same intervals.
	expect(t, "several with as many uses", of(impl.BestCuts([]int64{0, 1, 2, 2, 0, 1}, 2)), of([]int64{2}, true))
	// Cutting at 1 has the same bound as no cut.
	expect(t, "several with fewer uses", of(impl.BestCuts([]int64{0, 1, 0}, 2)), of(none, true))
	expect(t, "two cuts", of(impl.BestCuts([]int64{0, 1, 0, 1}, 1)), of([]int64{1, 2}, true))
	for _, uses := range append(shortUses(6), drawn(1, 10, 5), drawn(2, 11, 4), drawn(3, 12, 6), drawn(4, 12, 4)) {
		pairs, sets := pairsOfUses(uses), subsetsOf(len(uses))
		for ways := 1; ways <= 4; ways++ {
			best, least := sets[0], boundOf(ways, pairs, sets[0])
			for _, cuts := range sets[1:] {
				if bound := boundOf(ways, pairs, cuts); isBetterCut(bound, cuts, least, best) {
					best, least = cuts, bound
				}
			}
			expect(t, fmt.Sprint(uses, ways), of(impl.BestCuts(uses, int64(ways))), of(best, true))
		}
	}
}

// TestProof: the bound of the best cuts is the number of hits of the best choices, which no memory exceeds; no cuts that differ
// in one or two uses are better.
func TestProof(t *testing.T) {
	for i, uses := range append(optimalUses(), append(busyUses(), shortUses(7)...)...) {
		pairs := pairsOfUses(uses)
		for ways := 1; ways <= impl.MaxWays; ways++ {
			what := fmt.Sprint(uses, ways)
			kept, _ := impl.KeptIntervals(uses, int64(ways))
			cuts, ok := impl.BestCuts(uses, int64(ways))
			bound := boundOf(ways, pairs, cuts)
			expect(t, what, of(ok, bound), of(true, len(kept)))
			expect(t, what, of(impl.HitBound(uses, int64(ways), cuts)), of(bound, true))
			for at := range cuts {
				fewer := slices.Delete(slices.Clone(cuts), at, at+1)
				if boundOf(ways, pairs, fewer) <= bound {
					t.Errorf("%s: %v are fewer than %v", what, fewer, cuts)
				}
				for use := range int64(len(uses)) {
					other := sortedSet(append(slices.Clone(fewer), use))
					if i%3 == 0 && isBetterCut(boundOf(ways, pairs, other), other, bound, cuts) {
						t.Errorf("%s: %v are better than %v", what, other, cuts)
					}
				}
			}
		}
	}
}

// TestOptimalInvalid: uses or ways that are none make all functions fail.
func TestOptimalInvalid(t *testing.T) {
	expectFailures := func(uses []int64, ways int64) {
		what := fmt.Sprint(uses, ways)
		var none []int64
		expect(t, what, of(impl.BestMisses(uses, ways)), of(0, false))
		expect(t, what, of(impl.BestVictims(uses, ways)), of(none, false))
		expect(t, what, of(impl.BypassMisses(uses, ways)), of(0, false))
		expect(t, what, of(impl.IsKept(uses, ways, nil)), of(false))
		expect(t, what, of(impl.KeptIntervals(uses, ways)), of(none, false))
		expect(t, what, of(impl.HitBound(uses, ways, nil)), of(0, false))
		expect(t, what, of(impl.BestCuts(uses, ways)), of(none, false))
	}
	for _, ways := range badWays() {
		for _, uses := range [][]int64{nil, {1}, {0, 1, 2, 0, 1}, countedUp(impl.MaxTrace)} {
			expectFailures(uses, ways)
		}
	}
	lru, _ := impl.LruPolicy(2)
	for _, uses := range badUses() {
		for ways := int64(1); ways <= impl.MaxWays; ways++ {
			expectFailures(uses, ways)
		}
		what := fmt.Sprint(uses)
		expect(t, what, of(impl.BestCurve(uses)), of([]int64(nil), false))
		expect(t, what, of(impl.IntervalsOf(uses)), of([][]int64(nil), false))
		expect(t, what, of(impl.RatioOf(lru, uses)), of(0, 0, false))
	}
}
