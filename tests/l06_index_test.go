package tests

// Promise 7 (chapter 6): index functions with the same span have the same misses, and no index of the same rank has fewer than
// the best one.

import (
	"fmt"
	"math"
	"slices"
	"strings"
	"testing"

	"loop.example/g01112/impl"
)

// index returns the index with some rows.
func index(rows ...int64) impl.Index {
	return impl.Index{Rows: rows}
}

// someIndices are valid indices: all with one row, those of few rows in all ways, and others.
func someIndices() []impl.Index {
	all := []impl.Index{index(), index(0, 0), index(0, 0, 0), index(1, 3), index(3, 1), index(63, 63, 63), index(56, 6, 1), index(1, 6, 56), index(63, 62, 1), index(40, 20, 60)}
	for row := range int64(impl.MaxAddress) {
		all = append(all, index(row), index(row, 63), index(row, 0), index(row, row), index(21, row, 21^row))
	}
	for _, rows := range listsUpTo(3, 0, 1, 6, 7, 33, 63) {
		all = append(all, index(rows...))
	}
	for seed := range uint64(60) {
		all = append(all, index(drawn(seed, 2, impl.MaxAddress)...), index(drawn(seed+100, 3, impl.MaxAddress)...))
	}
	return all
}

// fewIndices are some of someIndices, for checks that take longer.
func fewIndices() []impl.Index {
	var few []impl.Index
	for i, x := range someIndices() {
		if i < 12 || i%13 == 0 {
			few = append(few, x)
		}
	}
	return few
}

// badIndices are no indices.
func badIndices() []impl.Index {
	bad := []impl.Index{index(1, 2, 4, 8), index(0, 0, 0, 0), index(7, 7, 7, 7), index(repeated(1, 5000)...)}
	for _, row := range []int64{-1, 64, 65, -64, 1 << 32, 1<<32 + 1, math.MinInt64, math.MaxInt64} {
		bad = append(bad, index(row), index(row, 1), index(1, row), index(1, 2, row), index(row, 1, 2))
	}
	return bad
}

// badIndexTexts are texts of no index.
func badIndexTexts() []string {
	return []string{"0", "1", "00000", "0000000", "00000/000001", "000001/0000000", "/", "//", "000000/", "/000000", "000000//000001", "000001/000010/", "/000001/000010",
		" 000000", "000000 ", "00000 ", " 00000", "000000 /000001", "000000/ 000001", "000000\n", "000002", "00000a", "000000/00000x", "+00001", "-00001", "+000001", "-000000", "0b0001", "0x0001", "00_001", "00000.",
		"000000,000001", "000000|000001", "000000 000001", "000000000001", "000000/000001/000010/000100", "000001/000010/000100/", "\x00\x00\x00\x00\x00\x00", "00000\xff", "none", "\u0660\u0660\u0660"}
}

// indexUses are uses for chapter 6, among them none, first ones alone, and one address alone.
func indexUses() [][]int64 {
	lists := [][]int64{nil, {0}, {63}, {63, 63}, {0, 8, 0, 8}, {1, 0, 2, 1, 0, 2, 1}, countedUp(impl.MaxTrace), repeated(7, impl.MaxTrace), append(countedUp(59), 0), append(countedUp(30), countedUp(30)...)}
	for seed := range uint64(5) {
		lists = append(lists, drawn(seed, impl.MaxTrace, int64(4+3*seed)), drawn(seed+40, 20, impl.MaxAddress), drawn(seed+80, impl.MaxTrace, impl.MaxAddress))
	}
	for _, stride := range []int64{4, 8, 16, 24} {
		var uses []int64
		for i := range int64(36) {
			uses = append(uses, i*i%7*stride%impl.MaxAddress+i%3)
		}
		lists = append(lists, uses)
	}
	return lists
}

// hasOdd returns 1 if a number has an odd number of bits, and otherwise 0.
func hasOdd(n int64) int64 {
	var odd int64
	for ; n > 0; n /= 2 {
		odd = (odd + n) % 2
	}
	return odd
}

// setFor returns the set of an address.
func setFor(rows []int64, address int64) int64 {
	set, power := int64(0), int64(1)
	for _, row := range rows {
		set += power * hasOdd(row&address)
		power *= 2
	}
	return set
}

// addressesOfSet returns all addresses of a set.
func addressesOfSet(rows []int64, set int64) []int64 {
	var members []int64
	for a := range int64(impl.MaxAddress) {
		if setFor(rows, a) == set {
			members = append(members, a)
		}
	}
	return members
}

// spanFor returns the span, by trying all choices of rows.
func spanFor(rows []int64) []int64 {
	var span []int64
	for _, chosen := range subsetsOf(len(rows)) {
		var n int64
		for _, i := range chosen {
			n ^= rows[i]
		}
		span = append(span, n)
	}
	return sortedSet(span)
}

// rankFor returns the power of 2 that the span has elements.
func rankFor(rows []int64) int64 {
	return int64(math.Round(math.Log2(float64(len(spanFor(rows))))))
}

// areReduced reports whether rows are those of a reduced index.
func areReduced(rows []int64) bool {
	for i, row := range rows {
		if row == 0 || i > 0 && row >= rows[i-1] {
			return false
		}
		greatest := int64(1)
		for greatest*2 <= row {
			greatest *= 2
		}
		for j, other := range rows {
			if i != j && other&greatest != 0 {
				return false
			}
		}
	}
	return true
}

// reducedLists returns the rows of all reduced indices with so many of them, in lexicographic order.
func reducedLists(bits int) [][]int64 {
	lists := [][]int64{nil}
	for range bits {
		var longer [][]int64
		for _, rows := range lists {
			for n := range int64(impl.MaxAddress) {
				if more := append(slices.Clone(rows), n); areReduced(more) {
					longer = append(longer, more)
				}
			}
		}
		lists = longer
	}
	return lists
}

// otherSince returns the different other addresses that have been used since the last use of the address at an index, and
// whether there is one.
func otherSince(uses []int64, at int) ([]int64, bool) {
	for before := at - 1; before >= 0; before-- {
		if uses[before] == uses[at] {
			return sortedSet(uses[before+1 : at]), true
		}
	}
	return nil, false
}

// missesFor returns which uses are misses, if each set has some places.
func missesFor(rows []int64, places int, uses []int64) []bool {
	var areMisses []bool
	for at, a := range uses {
		others, isAgain := otherSince(uses, at)
		count := 0
		for _, b := range others {
			if setFor(rows, b) == setFor(rows, a) {
				count++
			}
		}
		areMisses = append(areMisses, !isAgain || count >= places)
	}
	return areMisses
}

// missCount returns how many uses are misses.
func missCount(rows []int64, places int, uses []int64) int64 {
	var misses int64
	for _, isMiss := range missesFor(rows, places, uses) {
		if isMiss {
			misses++
		}
	}
	return misses
}

// differencesAt returns the differences of the use at an index.
func differencesAt(uses []int64, at int) []int64 {
	others, _ := otherSince(uses, at)
	var differences []int64
	for _, b := range others {
		differences = append(differences, b^uses[at])
	}
	return differences
}

func TestIndexLimits(t *testing.T) {
	expect(t, "limits", of(impl.AddressBits, impl.MaxIndexBits, impl.MaxSetPlaces), of(6, 3, 4))
}

func TestValidIndex(t *testing.T) {
	expect(t, "nil and empty", of(impl.ValidIndex(impl.Index{}), impl.ValidIndex(index([]int64{}...))), of(true, true))
	expect(t, "rows", of(impl.ValidIndex(index(-1)), impl.ValidIndex(index(0)), impl.ValidIndex(index(63)), impl.ValidIndex(index(64))), of(false, true, true, false))
	expect(t, "number of rows", of(impl.ValidIndex(index(63, 0, 63)), impl.ValidIndex(index(63, 0, 63, 0))), of(true, false))
	for _, x := range someIndices() {
		expect(t, fmt.Sprint(x), of(impl.ValidIndex(x)), of(true))
	}
	for _, x := range badIndices() {
		expect(t, fmt.Sprint(x), of(impl.ValidIndex(x)), of(false))
	}
}

func TestSetOf(t *testing.T) {
	expect(t, "example", of(impl.SetOf(index(1, 3), 2)), of(2, true))
	expect(t, "the first row is the least bit", of(impl.SetOf(index(1, 2, 4), 1)), of(1, true))
	expect(t, "the last row is the greatest bit", of(impl.SetOf(index(1, 2, 4), 4)), of(4, true))
	expect(t, "an even number of bits", of(impl.SetOf(index(7, 63, 6), 6)), of(0, true))
	for _, x := range someIndices() {
		for a := range int64(impl.MaxAddress) {
			expect(t, fmt.Sprint(x, a), of(impl.SetOf(x, a)), of(setFor(x.Rows, a), true))
		}
	}
	for _, a := range []int64{-1, 0, 63, 64, 1 << 32, math.MinInt64, math.MaxInt64} {
		expect(t, fmt.Sprint(a), of(impl.SetOf(index(), a)), of(0, a == 0 || a == 63))
		expect(t, fmt.Sprint(a), of(impl.SetMembers(index(63, 63), a))[1:], of(a == 0 || a == 63))
	}
}

// TestSpanOf: the span and the rank are those of all choices of rows.
func TestSpanOf(t *testing.T) {
	expect(t, "example", of(impl.SpanOf(index(1, 3))), of([]int64{0, 1, 2, 3}, true))
	expect(t, "no rows", of(impl.SpanOf(index())), of([]int64{0}, true))
	expect(t, "the row 0", of(impl.SpanOf(index(0, 0))), of([]int64{0}, true))
	expect(t, "a row twice", of(impl.SpanOf(index(63, 63))), of([]int64{0, 63}, true))
	expect(t, "one of two others", of(impl.SpanOf(index(5, 3, 6))), of([]int64{0, 3, 5, 6}, true))
	expect(t, "three", of(impl.SpanOf(index(56, 6, 1))), of([]int64{0, 1, 6, 7, 56, 57, 62, 63}, true))
	for _, x := range someIndices() {
		expect(t, fmt.Sprint(x), of(impl.SpanOf(x)), of(spanFor(x.Rows), true))
		expect(t, fmt.Sprint(x), of(impl.RankOf(x)), of(rankFor(x.Rows), true))
	}
}

func TestRankOf(t *testing.T) {
	for rank, indices := range [][]impl.Index{
		{index(), index(0), index(0, 0), index(0, 0, 0)},
		{index(1), index(63), index(5, 5), index(0, 5), index(5, 0), index(5, 5, 5), index(0, 5, 0), index(5, 0, 5)},
		{index(1, 3), index(32, 33), index(3, 5, 6), index(6, 3, 5), index(0, 1, 2), index(7, 7, 1), index(7, 1, 7), index(1, 7, 7)},
		{index(1, 2, 4), index(4, 2, 1), index(1, 3, 7), index(63, 62, 60), index(32, 33, 35)},
	} {
		for _, x := range indices {
			expect(t, fmt.Sprint(x), of(impl.RankOf(x)), of(rank, true))
		}
	}
}

// TestReducedIndex: it is reduced and has the same span.
func TestReducedIndex(t *testing.T) {
	expect(t, "example", of(impl.ReducedIndex(index(1, 3))), of(index(2, 1), true))
	expect(t, "no rows", of(impl.ReducedIndex(index())), of(index(), true))
	expect(t, "the row 0", of(impl.ReducedIndex(index(0, 0, 0))), of(index(), true))
	expect(t, "a row twice", of(impl.ReducedIndex(index(9, 0, 9))), of(index(9), true))
	expect(t, "one of two others", of(impl.ReducedIndex(index(3, 5, 6))), of(index(5, 3), true))
	expect(t, "bits in all rows", of(impl.ReducedIndex(index(63, 31, 15))), of(index(32, 16, 15), true))
	for _, x := range someIndices() {
		y, ok := impl.ReducedIndex(x)
		expect(t, fmt.Sprint(x), of(ok, areReduced(y.Rows), spanFor(y.Rows)), of(true, true, spanFor(x.Rows)))
		for _, order := range ordersUpTo(len(x.Rows)) {
			var other impl.Index
			for _, i := range order {
				other.Rows = append(other.Rows, x.Rows[i])
			}
			expect(t, fmt.Sprint(x, other), of(impl.ReducedIndex(other)), of(y, true))
		}
	}
}

// TestReducedOnce: each span has one reduced index, which all other rows with this span lead to.
func TestReducedOnce(t *testing.T) {
	for bits, count := range []int{1, 63, 651, 1395} {
		lists := reducedLists(bits)
		spans := map[string]bool{}
		for i, rows := range lists {
			span := spanFor(rows)
			spans[fmt.Sprint(span)] = true
			expect(t, fmt.Sprint(rows), of(impl.ReducedIndex(index(rows...))), of(index(rows...), true))
			if bits == 3 && i%40 != 0 || bits == 2 && i%5 != 0 {
				continue
			}
			for _, others := range listsUpTo(impl.MaxIndexBits, span...) {
				if len(spanFor(others)) == len(span) {
					expect(t, fmt.Sprint(others), of(impl.ReducedIndex(index(others...))), of(index(rows...), true))
				}
			}
		}
		expect(t, fmt.Sprint(bits, " rows"), of(len(lists), len(spans)), of(count, count))
	}
}

func TestKernelOf(t *testing.T) {
	all := countedUp(impl.MaxAddress)
	expect(t, "rank 0", of(impl.KernelOf(index())), of(all, true))
	expect(t, "the row 0", of(impl.KernelOf(index(0, 0, 0))), of(all, true))
	expect(t, "rank 1", of(impl.KernelOf(index(32))), of(all[:32], true))
	expect(t, "rank 2", of(impl.KernelOf(index(32, 16))), of(all[:16], true))
	expect(t, "rank 3", of(impl.KernelOf(index(48, 16, 8))), of(all[:8], true))
	expect(t, "several bits", of(impl.KernelOf(index(56, 6, 1))), of([]int64{0, 6, 24, 30, 40, 46, 48, 54}, true))
	for _, x := range someIndices() {
		kernel, ok := impl.KernelOf(x)
		expect(t, fmt.Sprint(x), of(kernel, ok), of(addressesOfSet(x.Rows, 0), true))
		expect(t, fmt.Sprint(x), of(len(kernel)*len(spanFor(x.Rows))), of(impl.MaxAddress))
	}
}

// TestSetMembers: they are the exclusive or with the kernel, and together they are all addresses, each once.
func TestSetMembers(t *testing.T) {
	expect(t, "no rows", of(impl.SetMembers(index(), 63)), of(countedUp(impl.MaxAddress), true))
	expect(t, "several bits", of(impl.SetMembers(index(56, 6, 1), 1)), of([]int64{1, 7, 25, 31, 41, 47, 49, 55}, true))
	for _, x := range fewIndices() {
		kernel, _ := impl.KernelOf(x)
		var together []int64
		for a := range int64(impl.MaxAddress) {
			var moved []int64
			for _, n := range kernel {
				moved = append(moved, a^n)
			}
			members, ok := impl.SetMembers(x, a)
			expect(t, fmt.Sprint(x, a), of(members, ok), of(sortedSet(moved), true))
			expect(t, fmt.Sprint(x, a), of(members), of(addressesOfSet(x.Rows, setFor(x.Rows, a))))
			if members[0] == a {
				together = append(together, members...)
			}
		}
		slices.Sort(together)
		expect(t, fmt.Sprint(x), of(together), of(countedUp(impl.MaxAddress)))
	}
}

func TestSetMisses(t *testing.T) {
	uses := []int64{0, 8, 0, 8}
	expect(t, "example", of(impl.SetMisses(index(7), 1, uses)), of(4, true))
	expect(t, "another row", of(impl.SetMisses(index(8), 1, uses)), of(2, true))
	expect(t, "more places", of(impl.SetMisses(index(7), 2, uses)), of(2, true))
	for i, x := range fewIndices() {
		expect(t, "no uses", of(impl.SetMisses(x, 1, nil)), of(0, true))
		expect(t, "one address", of(impl.SetMisses(x, 1, repeated(63, impl.MaxTrace))), of(1, true))
		expect(t, "first uses", of(impl.SetMisses(x, 4, countedUp(impl.MaxTrace))), of(impl.MaxTrace, true))
		for j, uses := range append(indexUses(), shortUses(5)...) {
			if j > len(indexUses()) && (i+j)%9 != 0 {
				continue
			}
			for places := 1; places <= impl.MaxSetPlaces; places++ {
				expect(t, fmt.Sprint(x, places, uses), of(impl.SetMisses(x, int64(places), uses)), of(missCount(x.Rows, places, uses), true))
			}
		}
	}
}

// TestSetPlaces: a use again is a hit with less other addresses of its set than places, and a miss with as many or more,
// however often they are used and whatever is used of other sets.
func TestSetPlaces(t *testing.T) {
	x := index(1)
	for places := int64(1); places <= impl.MaxSetPlaces; places++ {
		for others := int64(0); others <= impl.MaxSetPlaces+1; others++ {
			uses := []int64{62}
			for n := range others {
				uses = append(uses, 2*n, 2*n+1, 2*n)
			}
			for n := range int64(8) {
				uses = append(uses, 2*n+1)
			}
			var want int64
			if others >= places {
				want = 1
			}
			before, _ := impl.SetMisses(x, places, uses)
			misses, ok := impl.SetMisses(x, places, append(uses, 62))
			expect(t, fmt.Sprint(places, others), of(misses-before, ok), of(want, true))
		}
	}
}

// TestSetsAlone: each set is a memory of its own in which what has not been used for longest is replaced.
func TestSetsAlone(t *testing.T) {
	for _, x := range fewIndices() {
		for _, uses := range indexUses() {
			for places := int64(1); places <= impl.MaxSetPlaces; places++ {
				var sum int64
				for set := range int64(8) {
					own, _ := impl.OnlyUses(uses, addressesOfSet(x.Rows, set))
					lru, _ := impl.LruPolicy(places)
					misses, _ := impl.MissesOf(lru, own)
					sum += misses
				}
				expect(t, fmt.Sprint(x, places, uses), of(impl.SetMisses(x, places, uses)), of(sum, true))
			}
		}
	}
}

// TestSameSpan: index functions with the same span have the same misses.
func TestSameSpan(t *testing.T) {
	for i, x := range fewIndices() {
		span := spanFor(x.Rows)
		uses := indexUses()[i%len(indexUses())]
		misses, _ := impl.SetMisses(x, 2, uses)
		kinds, _ := impl.MissKinds(x, 1, uses)
		pressure, _ := impl.PressureOf(x, uses)
		for _, rows := range listsUpTo(impl.MaxIndexBits, span...) {
			if len(spanFor(rows)) != len(span) {
				continue
			}
			y := index(rows...)
			what := fmt.Sprint(x, y, uses)
			expect(t, what, of(impl.SetMisses(y, 2, uses)), of(misses, true))
			expect(t, what, of(impl.MissKinds(y, 1, uses)), of(kinds, true))
			expect(t, what, of(impl.PressureOf(y, uses)), of(pressure, true))
		}
	}
}

func TestMissKinds(t *testing.T) {
	uses := []int64{0, 8, 0, 8}
	expect(t, "example", of(impl.MissKinds(index(7), 1, uses)), of([]int64{2, 0, 2}, true))
	expect(t, "no set has too many", of(impl.MissKinds(index(8), 1, uses)), of([]int64{2, 0, 0}, true))
	expect(t, "rank 0", of(impl.MissKinds(index(0, 0, 0), 1, uses)), of([]int64{2, 2, 0}, true))
	expect(t, "no uses", of(impl.MissKinds(index(7), 1, nil)), of([]int64{0, 0, 0}, true))
	expect(t, "negative", of(impl.MissKinds(index(1), 1, []int64{1, 0, 2, 1, 0, 2, 1})), of([]int64{3, 4, -2}, true))
	// Five addresses need more than the 4 places of rank 2, but not more than the 8 of rank 3.
	five := append(countedUp(5), countedUp(5)...)
	expect(t, "less places", of(impl.MissKinds(index(32, 16), 1, five)), of([]int64{5, 5, 0}, true))
	expect(t, "more places", of(impl.MissKinds(index(32, 16), 2, five)), of([]int64{5, 0, 5}, true))
	expect(t, "a row too many", of(impl.MissKinds(index(32, 16, 48), 1, five)), of([]int64{5, 5, 0}, true))
	for places := int64(1); places <= impl.MaxSetPlaces; places++ {
		for _, x := range fewIndices() {
			for _, uses := range indexUses() {
				curve, _ := impl.LruCurve(uses, 32)
				firsts, misses := int64(countDifferent(uses)), missCount(x.Rows, int(places), uses)
				alone := curve[places*int64(len(spanFor(x.Rows)))]
				expect(t, fmt.Sprint(x, places, uses), of(impl.MissKinds(x, places, uses)), of([]int64{firsts, alone - firsts, misses - alone}, true))
			}
		}
	}
}

func TestDifferencesOf(t *testing.T) {
	counts := make([]int64, impl.MaxAddress)
	expect(t, "no uses", of(impl.DifferencesOf(nil)), of(counts, true))
	expect(t, "first uses", of(impl.DifferencesOf(countedUp(impl.MaxTrace))), of(counts, true))
	expect(t, "one address", of(impl.DifferencesOf(repeated(5, impl.MaxTrace))), of(counts, true))
	counts[8] = 2
	expect(t, "example", of(impl.DifferencesOf([]int64{0, 8, 0, 8})), of(counts, true))
	// 9 and 12 are used several times between the uses of 5; the 12 again has 5, 9 and 9.
	counts = make([]int64, impl.MaxAddress)
	counts[5^12], counts[5^9], counts[9^12] = 1, 1, 2
	expect(t, "an address several times", of(impl.DifferencesOf([]int64{5, 9, 12, 12, 9, 9, 12, 5})), of(counts, true))
	counts = make([]int64, impl.MaxAddress)
	counts[63] = 1
	expect(t, "the greatest", of(impl.DifferencesOf([]int64{63, 0, 63})), of(counts, true))
	for _, uses := range append(indexUses(), shortUses(6)...) {
		counts := make([]int64, impl.MaxAddress)
		for at := range uses {
			for _, n := range differencesAt(uses, at) {
				counts[n]++
			}
		}
		counts[0] = 0
		expect(t, fmt.Sprint(uses), of(impl.DifferencesOf(uses)), of(counts, true))
	}
}

func TestPressureOf(t *testing.T) {
	uses := []int64{0, 8, 0, 8}
	expect(t, "in the kernel", of(impl.PressureOf(index(7), uses)), of(2, true))
	expect(t, "not in the kernel", of(impl.PressureOf(index(8), uses)), of(0, true))
	expect(t, "no rows", of(impl.PressureOf(index(), []int64{1, 2, 3, 2, 1})), of(3, true))
	for _, x := range fewIndices() {
		expect(t, "no uses", of(impl.PressureOf(x, nil)), of(0, true))
		for _, uses := range indexUses() {
			var pressure int64
			for at := range uses {
				for _, n := range differencesAt(uses, at) {
					if setFor(x.Rows, n) == 0 {
						pressure++
					}
				}
			}
			expect(t, fmt.Sprint(x, uses), of(impl.PressureOf(x, uses)), of(pressure, true))
		}
	}
}

// TestOnePlace: with one place, uses of addresses that have been used before are misses exactly if a difference is in the kernel.
func TestOnePlace(t *testing.T) {
	for _, x := range fewIndices() {
		kernel, _ := impl.KernelOf(x)
		for _, uses := range indexUses() {
			before := int64(0)
			for at := range uses {
				_, isAgain := otherSince(uses, at)
				isMiss := !isAgain || slices.ContainsFunc(differencesAt(uses, at), func(n int64) bool { return slices.Contains(kernel, n) })
				misses, ok := impl.SetMisses(x, 1, uses[:at+1])
				expect(t, fmt.Sprint(x, at, uses), of(misses > before, ok), of(isMiss, true))
				before = misses
			}
		}
	}
}

func TestBestIndex(t *testing.T) {
	uses := []int64{0, 8, 0, 8}
	expect(t, "example", of(impl.BestIndex(1, 1, uses)), of(index(8), 2, true))
	expect(t, "no rows", of(impl.BestIndex(0, 1, uses)), of(index(), 4, true))
	expect(t, "no rows, 2 places", of(impl.BestIndex(0, 2, uses)), of(index(), 2, true))
	// The least rows of all, 2 and 1, leave 0 and 8 in one set.
	expect(t, "two rows", of(impl.BestIndex(2, 1, uses)), of(index(8, 1), 2, true))
	expect(t, "three rows", of(impl.BestIndex(3, 1, uses)), of(index(8, 2, 1), 2, true))
	for places := int64(1); places <= impl.MaxSetPlaces; places++ {
		for bits, least := range []impl.Index{index(), index(1), index(2, 1), index(4, 2, 1)} {
			expect(t, fmt.Sprint("no uses ", bits), of(impl.BestIndex(int64(bits), places, nil)), of(least, 0, true))
			expect(t, fmt.Sprint("first uses ", bits), of(impl.BestIndex(int64(bits), places, countedUp(impl.MaxTrace))), of(least, impl.MaxTrace, true))
			expect(t, fmt.Sprint("one address ", bits), of(impl.BestIndex(int64(bits), places, repeated(63, impl.MaxTrace))), of(least, 1, true))
		}
	}
	for bits := range impl.MaxIndexBits + 1 {
		lists := reducedLists(bits)
		for i, uses := range indexUses() {
			places := 1 + i%3
			var best []int64
			least := int64(math.MaxInt64)
			for _, rows := range lists {
				if misses := missCount(rows, places, uses); misses < least {
					best, least = rows, misses
				}
			}
			expect(t, fmt.Sprint(bits, places, uses), of(impl.BestIndex(int64(bits), int64(places), uses)), of(index(best...), least, true))
		}
	}
}

// usesApart returns uses with as many differences as there is room for, none of which is in the kernel of an index with some
// rows, so that with one place only the first uses are misses.
func usesApart(rows []int64, seed uint64) []int64 {
	uses := []int64{0}
	for _, n := range drawn(seed, impl.MaxTrace, impl.MaxAddress) {
		if setFor(rows, n) != 0 && len(uses)+2 <= impl.MaxTrace && !slices.Contains(uses, n) {
			uses = append(uses, n, 0)
		}
	}
	return uses
}

// TestBestAlone: each row can be the only best one, and rows from everywhere among all lists can be the best ones.
func TestBestAlone(t *testing.T) {
	for bits, step := range []int{1, 1, 65, 140} {
		lists := reducedLists(bits)
		for i := len(lists) - 1; i >= 0; i -= step {
			uses := usesApart(lists[i], uint64(i))
			firsts := int64(countDifferent(uses))
			want := slices.IndexFunc(lists, func(rows []int64) bool { return missCount(rows, 1, uses) == firsts })
			expect(t, fmt.Sprint(lists[i], uses), of(impl.BestIndex(int64(bits), 1, uses)), of(index(lists[want]...), firsts, true))
			if bits == 1 && want != i {
				t.Errorf("%v is as good as %v for %v", lists[want], lists[i], uses)
			}
		}
	}
}

// TestBestOfIndices: no index of the same rank, reduced or not, has fewer misses than the best one, which has what it tells.
func TestBestOfIndices(t *testing.T) {
	for _, uses := range indexUses() {
		for places := int64(1); places <= impl.MaxSetPlaces; places++ {
			var fewest [impl.MaxIndexBits + 1]int64
			for bits := range fewest {
				x, least, ok := impl.BestIndex(int64(bits), places, uses)
				fewest[bits] = least
				expect(t, fmt.Sprint(bits, places, uses), of(ok, len(x.Rows), areReduced(x.Rows)), of(true, bits, true))
				expect(t, fmt.Sprint(bits, places, uses), of(impl.SetMisses(x, places, uses)), of(least, true))
			}
			for _, x := range someIndices() {
				misses, _ := impl.SetMisses(x, places, uses)
				if least := fewest[rankFor(x.Rows)]; misses < least {
					t.Errorf("%v has %d misses, but the least number is %d, for %d and %v", x, misses, least, places, uses)
				}
			}
		}
	}
}

// TestBestIndexLimits: the numbers of rows and of places are limited, whatever the uses are.
func TestBestIndexLimits(t *testing.T) {
	for _, n := range []int64{math.MinInt64, -2, -1, 4, 5, 6, 64, 1 << 32, 1<<32 + 1, math.MaxInt64} {
		for _, uses := range [][]int64{nil, {5}, {0, 8, 0, 8}, countedUp(impl.MaxTrace)} {
			expect(t, fmt.Sprint("bits ", n), of(impl.BestIndex(n, 1, uses)), of(index(), 0, false))
		}
	}
	for _, n := range badPlaces() {
		for bits := range int64(impl.MaxIndexBits + 1) {
			expect(t, fmt.Sprint("places ", n), of(impl.BestIndex(bits, n, []int64{0, 8, 0, 8})), of(index(), 0, false))
		}
	}
	for _, uses := range badUses() {
		for bits := range int64(impl.MaxIndexBits + 1) {
			expect(t, fmt.Sprint(uses), of(impl.BestIndex(bits, 1, uses)), of(index(), 0, false))
		}
	}
}

func TestIndexText(t *testing.T) {
	expect(t, "example", of(impl.IndexText(index(1, 3))), of("000001/000011", true))
	expect(t, "no rows", of(impl.IndexText(index())), of("", true))
	expect(t, "the row 0", of(impl.IndexText(index(0))), of("000000", true))
	expect(t, "all bits", of(impl.IndexText(index(63, 0, 32))), of("111111/000000/100000", true))
	for _, x := range someIndices() {
		var words []string
		for _, row := range x.Rows {
			words = append(words, fmt.Sprintf("%06b", row))
		}
		s := strings.Join(words, "/")
		expect(t, s, of(impl.IndexText(x)), of(s, true))
		expect(t, s, of(impl.ReadIndex(s)), of(x, true))
	}
}

func TestReadIndex(t *testing.T) {
	expect(t, "no rows", of(impl.ReadIndex("")), of(index(), true))
	expect(t, "one row", of(impl.ReadIndex("000000")), of(index(0), true))
	expect(t, "several rows", of(impl.ReadIndex("111111/000001/100000")), of(index(63, 1, 32), true))
	for _, s := range badIndexTexts() {
		expect(t, s, of(impl.ReadIndex(s)), of(index(), false))
	}
	for _, s := range []string{"010011", "010011/101010/000111"} {
		for at := range len(s) {
			for b := range 256 {
				changed := s[:at] + string([]byte{byte(b)}) + s[at+1:]
				x, ok := impl.ReadIndex(changed)
				expect(t, changed, of(ok), of(s[at] != '/' && (b == '0' || b == '1') || byte(b) == s[at]))
				if again, _ := impl.IndexText(x); ok && again != changed {
					t.Errorf("the text of what %q is read as is %q", changed, again)
				}
			}
			expect(t, s, of(impl.ReadIndex(s[:at]+s[at+1:])), of(index(), false))
			expect(t, s, of(impl.ReadIndex(s[:at]+"0"+s[at:])), of(index(), false))
			expect(t, s, of(impl.ReadIndex(s[:at]+"/"+s[at:])), of(index(), false))
		}
	}
}

// badPlaces are no numbers of places.
func badPlaces() []int64 {
	return []int64{math.MinInt64, -2, -1, 0, 5, 6, 1 << 32, 1<<32 + 1, math.MaxInt64}
}

// expectIndexFailures fails the test unless all functions that receive these arguments fail.
func expectIndexFailures(t *testing.T, x impl.Index, places int64, uses []int64) {
	t.Helper()
	what := fmt.Sprint(x, places, uses)
	var none []int64
	expect(t, what, of(impl.SetMisses(x, places, uses)), of(0, false))
	expect(t, what, of(impl.MissKinds(x, places, uses)), of(none, false))
}

// TestIndexInvalid: an index, an address, places or uses that are none make all functions fail.
func TestIndexInvalid(t *testing.T) {
	var none []int64
	for _, x := range badIndices() {
		what := fmt.Sprint(x)
		expect(t, what, of(impl.SetOf(x, 0)), of(0, false))
		expect(t, what, of(impl.SpanOf(x)), of(none, false))
		expect(t, what, of(impl.RankOf(x)), of(0, false))
		expect(t, what, of(impl.ReducedIndex(x)), of(index(), false))
		expect(t, what, of(impl.KernelOf(x)), of(none, false))
		expect(t, what, of(impl.SetMembers(x, 0)), of(none, false))
		expect(t, what, of(impl.PressureOf(x, nil)), of(0, false))
		expect(t, what, of(impl.IndexText(x)), of("", false))
		expectIndexFailures(t, x, 1, nil)
		expectIndexFailures(t, x, 4, []int64{0, 8, 0, 8})
	}
	for _, a := range []int64{-1, 64, 65, -64, 1 << 32, math.MinInt64, math.MaxInt64} {
		expect(t, fmt.Sprint(a), of(impl.SetOf(index(1, 3), a)), of(0, false))
		expect(t, fmt.Sprint(a), of(impl.SetMembers(index(1, 3), a)), of(none, false))
	}
	for _, places := range badPlaces() {
		expectIndexFailures(t, index(), places, nil)
		expectIndexFailures(t, index(7), places, []int64{0, 8, 0, 8})
	}
	for _, uses := range badUses() {
		expectIndexFailures(t, index(7), 1, uses)
		expect(t, fmt.Sprint(uses), of(impl.DifferencesOf(uses)), of(none, false))
		expect(t, fmt.Sprint(uses), of(impl.PressureOf(index(7), uses)), of(0, false))
	}
}
