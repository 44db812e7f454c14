package tests

// Promise 3 (chapter 2): working sets and next uses tell the same about uses, phases are as long as they can be, and loops
// make the accesses that their strides tell.

import (
	"fmt"
	"math"
	"regexp"
	"slices"
	"strings"
	"testing"

	"loop.example/g01112/impl"
)

// manyUses are all short uses of three addresses, and longer ones up to the limit.
func manyUses() [][]int64 {
	all := listsUpTo(6, 0, 5, 63)
	for seed := range uint64(30) {
		all = append(all, drawn(seed, int(seed)*2, int64(1+seed%9)), drawn(seed+100, impl.MaxTrace, int64(2+2*seed)))
	}
	return append(all, repeated(63, impl.MaxTrace), []int64{7, 5, 7, 7, 2, 5})
}

// badUses are no uses.
func badUses() [][]int64 {
	return [][]int64{{-1}, {64}, {1, 2, 64}, {-1, 1}, {1, math.MinInt64, 2}, {math.MaxInt64}, {1 << 32}, repeated(1, impl.MaxTrace+1), append(repeated(1, impl.MaxTrace-1), 64)}
}

// access returns one access.
func access(kind, address int64) impl.Access {
	return impl.Access{Kind: kind, Address: address}
}

// countDifferent returns how many different numbers a list has.
func countDifferent(list []int64) int {
	seen := map[int64]bool{}
	for _, n := range list {
		seen[n] = true
	}
	return len(seen)
}

// sortedSet returns the set of the numbers of a list.
func sortedSet(list []int64) []int64 {
	sorted := slices.Clone(list)
	slices.Sort(sorted)
	return slices.Compact(sorted)
}

func TestTracesLimits(t *testing.T) {
	expect(t, "limits", of(impl.MaxAddress, impl.MaxTrace, impl.MaxNest, impl.MaxStride, impl.Read, impl.Write), of(64, 60, 3, 1000, 0, 1))
}

func TestValidTrace(t *testing.T) {
	valid := [][]impl.Access{nil, {}, {access(0, 0)}, {access(1, 0)}, {access(0, 63)}, {access(1, 63)}, {access(1, 5), access(1, 5), access(0, 5)}, slices.Repeat([]impl.Access{access(1, 63)}, 60)}
	for _, x := range valid {
		expect(t, fmt.Sprint(x), of(impl.ValidTrace(x)), of(true))
	}
	for _, n := range []int64{-1, 64, 65, 1 << 32, math.MinInt64, math.MaxInt64} {
		expect(t, fmt.Sprint("address ", n), of(impl.ValidTrace([]impl.Access{access(0, 1), access(1, n)})), of(false))
		kind := []impl.Access{access(n, 1), access(0, 1)}
		expect(t, fmt.Sprint("kind ", n), of(impl.ValidTrace(kind)), of(false))
		expect(t, fmt.Sprint("kind ", n), of(impl.UsesOf(kind)), of([]int64(nil), false))
		expect(t, fmt.Sprint("kind ", n), of(impl.TraceText(kind)), of("", false))
	}
	for _, kind := range []int64{-1, 2, 3} {
		expect(t, fmt.Sprint("kind ", kind), of(impl.ValidTrace([]impl.Access{access(kind, 1)})), of(false))
	}
	long := slices.Repeat([]impl.Access{access(1, 6)}, 61)
	expect(t, "61 accesses", of(impl.ValidTrace(long)), of(false))
	expect(t, "61 accesses", of(impl.UsesOf(long)), of([]int64(nil), false))
	expect(t, "61 accesses", of(impl.TraceText(long)), of("", false))
	expect(t, "60 accesses", of(impl.UsesOf(long[:60])), of(repeated(6, 60), true))
	expect(t, "no accesses", of(impl.UsesOf(nil)), of([]int64{}, true))
	expect(t, "UsesOf", of(impl.UsesOf([]impl.Access{access(0, 5), access(1, 63), access(0, 0), access(1, 5)})), of([]int64{5, 63, 0, 5}, true))
}

func TestValidUses(t *testing.T) {
	for _, uses := range manyUses() {
		expect(t, fmt.Sprint(uses), of(impl.ValidUses(uses)), of(true))
	}
	var none []int64
	for _, uses := range badUses() {
		what := fmt.Sprint(uses)
		expect(t, what, of(impl.ValidUses(uses)), of(false))
		expect(t, what, of(impl.AddressesOf(uses)), of(none, false))
		expect(t, what, of(impl.CountsOf(uses)), of(none, false))
		expect(t, what, of(impl.GapsOf(uses)), of(none, false))
		expect(t, what, of(impl.NextUses(uses)), of(none, false))
		expect(t, what, of(impl.PhasesOf(uses, 3)), of(none, false))
		expect(t, what, of(impl.WorkingSet(uses, 0, 3)), of(none, false))
		expect(t, what, of(impl.WorkingSizes(uses, 3)), of(none, false))
		expect(t, what, of(impl.CanonicalUses(uses)), of(none, false))
		expect(t, what, of(impl.OnlyUses(uses, []int64{1})), of(none, false))
		expect(t, what, of(impl.OnlyUses(uses, nil)), of(none, false))
	}
}

func TestAddressesAndCounts(t *testing.T) {
	for _, uses := range manyUses() {
		set := sortedSet(uses)
		var counts []int64
		for _, a := range set {
			counts = append(counts, 0)
			for _, b := range uses {
				if a == b {
					counts[len(counts)-1]++
				}
			}
		}
		expect(t, fmt.Sprint(uses), of(impl.AddressesOf(uses)), of(set, true))
		expect(t, fmt.Sprint(uses), of(impl.CountsOf(uses)), of(counts, true))
	}
}

// TestGapsAndNextUses: gaps and next uses are each other's reverse, and between two uses that they name there is none.
func TestGapsAndNextUses(t *testing.T) {
	expect(t, "example", of(impl.GapsOf([]int64{7, 5, 7, 7, 2, 5})), of([]int64{0, 0, 2, 1, 0, 4}, true))
	expect(t, "example", of(impl.NextUses([]int64{7, 5, 7, 7, 2, 5})), of([]int64{2, 5, 3, -1, -1, -1}, true))
	for _, uses := range manyUses() {
		last := map[int64]int{}
		gaps, next := make([]int64, len(uses)), make([]int64, len(uses))
		for i, a := range uses {
			next[i] = -1
			if before, used := last[a]; used {
				gaps[i] = int64(i - before)
				next[before] = int64(i)
			}
			last[a] = i
		}
		expect(t, fmt.Sprint(uses), of(impl.GapsOf(uses)), of(gaps, true))
		expect(t, fmt.Sprint(uses), of(impl.NextUses(uses)), of(next, true))
	}
}

// TestPhases: each phase has at most k addresses, and with the next use it would have more.
func TestPhases(t *testing.T) {
	expect(t, "example", of(impl.PhasesOf([]int64{7, 5, 7, 7, 2, 5}, 2)), of([]int64{0, 4}, true))
	expect(t, "shorter last phase", of(impl.PhasesOf([]int64{1, 2, 3, 3}, 2)), of([]int64{0, 2}, true))
	expect(t, "back to an address", of(impl.PhasesOf([]int64{1, 2, 3, 1}, 2)), of([]int64{0, 2}, true))
	expect(t, "one use last", of(impl.PhasesOf([]int64{1, 2, 1, 3}, 2)), of([]int64{0, 3}, true))
	expect(t, "changes", of(impl.PhasesOf([]int64{1, 1, 2, 1, 1}, 1)), of([]int64{0, 2, 3}, true))
	for _, uses := range manyUses() {
		for _, k := range []int64{1, 2, 3, 4, 7, 63, 64} {
			starts, ok := impl.PhasesOf(uses, k)
			if !ok || (len(starts) == 0) != (len(uses) == 0) || len(starts) > 0 && starts[0] != 0 {
				t.Fatalf("%v, %d: got %v, %v", uses, k, starts, ok)
			}
			for i, start := range starts {
				end := int64(len(uses))
				if i+1 < len(starts) {
					end = starts[i+1]
				}
				if start >= end || countDifferent(uses[start:end]) > int(k) || end < int64(len(uses)) && countDifferent(uses[start:end+1]) <= int(k) {
					t.Errorf("%v, %d: phase from %d to %d", uses, k, start, end)
				}
			}
		}
	}
	for _, k := range []int64{math.MinInt64, -1, 0, 65, math.MaxInt64} {
		expect(t, fmt.Sprint("k ", k), of(impl.PhasesOf([]int64{1, 2}, k)), of([]int64(nil), false))
		expect(t, fmt.Sprint("no uses, k ", k), of(impl.PhasesOf(nil, k)), of([]int64(nil), false))
	}
}

// TestWorkingSets: the working set has the addresses of a window of uses, and WorkingSizes counts them.
func TestWorkingSets(t *testing.T) {
	expect(t, "example", of(impl.WorkingSizes([]int64{7, 5, 7, 7, 2, 5}, 2)), of([]int64{1, 2, 2, 1, 2, 2}, true))
	for _, uses := range manyUses() {
		for _, window := range []int64{1, 2, 3, 5, 6, 7, 59, 60} {
			var sizes []int64
			for at := range uses {
				set := sortedSet(uses[max(0, at+1-int(window)) : at+1])
				sizes = append(sizes, int64(len(set)))
				expect(t, fmt.Sprint(uses, at, window), of(impl.WorkingSet(uses, int64(at), window)), of(set, true))
			}
			expect(t, fmt.Sprint(uses, window), of(impl.WorkingSizes(uses, window)), of(sizes, true))
		}
	}
	expect(t, "no uses", of(impl.WorkingSizes(nil, 60)), of([]int64{}, true))
}

// TestWorkingSizesAndNextUses: the working sets of a window together are as large as the times that the uses stay in it, each
// until the window has passed, the address is used next, or the uses end.
func TestWorkingSizesAndNextUses(t *testing.T) {
	for _, uses := range manyUses() {
		next, _ := impl.NextUses(uses)
		for window := int64(1); window <= impl.MaxTrace; window += 4 {
			sizes, _ := impl.WorkingSizes(uses, window)
			sum, stays := int64(0), int64(0)
			for i, size := range sizes {
				sum += size
				until := min(int64(len(uses)), int64(i)+window)
				if next[i] >= 0 {
					until = min(until, next[i])
				}
				stays += until - int64(i)
			}
			if sum != stays {
				t.Errorf("%v, window %d: sizes %v, but %d from next uses", uses, window, sizes, stays)
			}
		}
	}
}

func TestWorkingSetInvalid(t *testing.T) {
	uses := []int64{7, 5, 7}
	var none []int64
	for _, window := range []int64{math.MinInt64, -1, 0, 61, math.MaxInt64} {
		expect(t, fmt.Sprint("window ", window), of(impl.WorkingSet(uses, 1, window)), of(none, false))
		expect(t, fmt.Sprint("window ", window), of(impl.WorkingSizes(uses, window)), of(none, false))
		expect(t, fmt.Sprint("no uses, window ", window), of(impl.WorkingSizes(nil, window)), of(none, false))
	}
	for _, at := range []int64{math.MinInt64, -1, 3, 4, 1 << 32, math.MaxInt64} {
		expect(t, fmt.Sprint("at ", at), of(impl.WorkingSet(uses, at, 2)), of(none, false))
	}
	expect(t, "no uses", of(impl.WorkingSet(nil, 0, 1)), of(none, false))
	expect(t, "first", of(impl.WorkingSet(uses, 0, 60)), of([]int64{7}, true))
	expect(t, "last", of(impl.WorkingSet(uses, 2, 60)), of([]int64{5, 7}, true))
	expect(t, "window 1", of(impl.WorkingSet(uses, 2, 1)), of([]int64{7}, true))
}

func TestCanonicalUses(t *testing.T) {
	for _, uses := range manyUses() {
		numbers := map[int64]int64{}
		var want []int64
		for _, a := range uses {
			if _, used := numbers[a]; !used {
				numbers[a] = int64(len(numbers))
			}
			want = append(want, numbers[a])
		}
		expect(t, fmt.Sprint(uses), of(impl.CanonicalUses(uses)), of(want, true))
		expect(t, fmt.Sprint(want, " again"), of(impl.CanonicalUses(want)), of(want, true))
	}
}

func TestOnlyUses(t *testing.T) {
	expect(t, "two of three", of(impl.OnlyUses([]int64{7, 5, 7, 7, 2, 5}, []int64{5, 7})), of([]int64{7, 5, 7, 7, 5}, true))
	sets := [][]int64{nil, {}, {0}, {63}, {0, 63}, {5, 62}, {0, 5, 63}, {1, 2, 3}}
	for _, uses := range manyUses() {
		for _, set := range sets {
			want := slices.DeleteFunc(slices.Clone(uses), func(a int64) bool { return !slices.Contains(set, a) })
			expect(t, fmt.Sprint(uses, set), of(impl.OnlyUses(uses, set)), of(want, true))
		}
	}
	all := make([]int64, 64)
	for i := range all {
		all[i] = int64(i)
	}
	expect(t, "all addresses", of(impl.OnlyUses([]int64{9, 63, 0}, all)), of([]int64{9, 63, 0}, true))
	for _, set := range [][]int64{{-1}, {64}, {5, 5}, {7, 5}, {1, 2, 2}, {1, 3, 2}, {0, 64}, {-1, 5}, {math.MinInt64, 1}, append(slices.Clone(all), 64)} {
		expect(t, fmt.Sprint(set), of(impl.OnlyUses([]int64{5, 7}, set)), of([]int64(nil), false))
		expect(t, fmt.Sprint("no uses", set), of(impl.OnlyUses(nil, set)), of([]int64(nil), false))
	}
}

// TestMergeTraces: each trace is in order in the merged one, at the turns that are its own.
func TestMergeTraces(t *testing.T) {
	a := []impl.Access{access(0, 1), access(1, 2), access(0, 3)}
	b := []impl.Access{access(1, 63), access(0, 1)}
	for _, turns := range listsUpTo(6, 0, 1) {
		got, ok := impl.MergeTraces(a, b, turns)
		ones := countOnes(turns)
		if fits := len(turns) == 5 && ones == 2; ok != fits || !ok && got != nil {
			t.Errorf("%v: got %v, %v", turns, got, ok)
		}
		var parts [2][]impl.Access
		for i, x := range got {
			parts[turns[i]] = append(parts[turns[i]], x)
		}
		if ok && (!slices.Equal(parts[0], a) || !slices.Equal(parts[1], b)) {
			t.Errorf("%v: got %v", turns, got)
		}
	}
	var none []impl.Access
	expect(t, "no traces", of(impl.MergeTraces(nil, nil, nil)), of(none, true))
	expect(t, "no second one", of(impl.MergeTraces(a, nil, []int64{0, 0, 0})), of(a, true))
	for _, turns := range [][]int64{{0, 0, 0, 1, 2}, {0, 0, 0, 1, -1}, {2, 0, 0, 0, 1}, {0, 0, 0, math.MaxInt64, math.MinInt64}, {0, 0, 0, 1 << 32, 1}, {0, 0, 0, 1, 1, 2}} {
		expect(t, fmt.Sprint(turns), of(impl.MergeTraces(a, b, turns)), of(none, false))
	}
	full, half := slices.Repeat(a, 20), slices.Repeat(a, 10)
	turns := append(repeated(1, 30), repeated(0, 30)...)
	expect(t, "60 turns", of(impl.MergeTraces(half, half, turns)), of(full, true))
	expect(t, "61 turns", of(impl.MergeTraces(full, a[:1], append(repeated(0, 60), 1))), of(none, false))
	expect(t, "60 turns of one", of(impl.MergeTraces(nil, full, repeated(1, 60))), of(full, true))
	expect(t, "trace too long", of(impl.MergeTraces(slices.Repeat(a, 21), nil, repeated(0, 63))), of(none, false))
	bad := []impl.Access{access(0, 64)}
	expect(t, "bad first", of(impl.MergeTraces(bad, b, []int64{0, 1, 1})), of(none, false))
	expect(t, "bad second", of(impl.MergeTraces(b, bad, []int64{0, 0, 1})), of(none, false))
	expect(t, "bad kind", of(impl.MergeTraces(b, []impl.Access{access(2, 1)}, []int64{0, 0, 1})), of(none, false))
}

// countOnes returns how many numbers of a list are 1.
func countOnes(list []int64) int {
	return len(list) - len(slices.DeleteFunc(slices.Clone(list), func(n int64) bool { return n == 1 }))
}

// loopTrace makes the trace of exactly three loops, by counting.
func loopTrace(kind, base int64, counts, strides [3]int64) []impl.Access {
	var t []impl.Access
	for i := range counts[0] {
		for j := range counts[1] {
			for k := range counts[2] {
				place := base + i*strides[0] + j*strides[1] + k*strides[2]
				for place < 0 {
					place += 64
				}
				t = append(t, access(kind, place&63))
			}
		}
	}
	return t
}

func TestNestTrace(t *testing.T) {
	sizes := []int64{1, 2, 3, 4, 5, 7, 10, 30, 31, 59, 60}
	for i, a := range sizes {
		for j, b := range sizes {
			for k, c := range sizes {
				strides := [3]int64{drawn(uint64(i), 1, 2001)[0] - 1000, drawn(uint64(j+50), 1, 130)[0] - 65, drawn(uint64(k+90), 1, 9)[0] - 4}
				kind, base := int64((i+j)%2), int64(i*5+j)
				full := loopTrace(kind, base, [3]int64{a, b, c}, strides)
				nest := impl.Nest{Kind: kind, Base: base, Counts: []int64{a, b, c}, Strides: strides[:]}
				expectNest(t, nest, full)
				if c == 1 {
					expectNest(t, impl.Nest{Kind: kind, Base: base, Counts: []int64{a, b}, Strides: strides[:2]}, full)
				}
				if b == 1 && c == 1 {
					expectNest(t, impl.Nest{Kind: kind, Base: base, Counts: []int64{a}, Strides: strides[:1]}, full)
				}
			}
		}
	}
	expectNest(t, impl.Nest{Kind: 1, Base: 63}, []impl.Access{access(1, 63)})
	expectNest(t, impl.Nest{Base: 0, Counts: []int64{3}, Strides: []int64{-1}}, []impl.Access{access(0, 0), access(0, 63), access(0, 62)})
	expectNest(t, impl.Nest{Base: 1, Counts: []int64{3}, Strides: []int64{-1000}}, []impl.Access{access(0, 1), access(0, 25), access(0, 49)})
	expectNest(t, impl.Nest{Base: 1, Counts: []int64{2}, Strides: []int64{-65}}, []impl.Access{access(0, 1), access(0, 0)})
	expectNest(t, impl.Nest{Base: 0, Counts: []int64{2}, Strides: []int64{-64}}, []impl.Access{access(0, 0), access(0, 0)})
}

// expectNest fails the test unless the nest makes the wanted accesses, or fails if these are too many.
func expectNest(t *testing.T, n impl.Nest, want []impl.Access) {
	t.Helper()
	if len(want) > impl.MaxTrace {
		expect(t, fmt.Sprint(n), of(impl.NestTrace(n)), of([]impl.Access(nil), false))
	} else {
		expect(t, fmt.Sprint(n), of(impl.NestTrace(n)), of(want, true))
	}
}

func TestNestTraceInvalid(t *testing.T) {
	good := func() impl.Nest { return impl.Nest{Kind: 1, Base: 3, Counts: []int64{2, 3}, Strides: []int64{-4, 1}} }
	_, ok := impl.NestTrace(good())
	expect(t, "good", of(ok), of(true))
	wrong := func(what string, change func(n *impl.Nest)) {
		t.Helper()
		n := good()
		change(&n)
		expect(t, what, of(impl.NestTrace(n)), of([]impl.Access(nil), false))
	}
	for _, n := range []int64{math.MinInt64, -1001, -1, 64, 1001, 1 << 32, math.MaxInt64} {
		wrong(fmt.Sprint("kind ", n), func(x *impl.Nest) { x.Kind = n })
		wrong(fmt.Sprint("base ", n), func(x *impl.Nest) { x.Base = n })
		wrong(fmt.Sprint("count ", n), func(x *impl.Nest) { x.Counts[0] = n })
		wrong(fmt.Sprint("inner count ", n), func(x *impl.Nest) { x.Counts[1] = n })
		if n < -1000 || n > 1000 {
			wrong(fmt.Sprint("stride ", n), func(x *impl.Nest) { x.Strides[0] = n })
			wrong(fmt.Sprint("inner stride ", n), func(x *impl.Nest) { x.Strides[1] = n })
		}
	}
	for _, n := range []int64{0, 61} {
		wrong(fmt.Sprint("count ", n), func(x *impl.Nest) { x.Counts[0], x.Counts[1] = n, 1 })
		wrong(fmt.Sprint("inner count ", n), func(x *impl.Nest) { x.Counts[1], x.Counts[0] = n, 1 })
	}
	wrong("kind 2", func(x *impl.Nest) { x.Kind = 2 })
	wrong("no strides", func(x *impl.Nest) { x.Strides = nil })
	wrong("no counts", func(x *impl.Nest) { x.Counts = nil })
	wrong("a stride too few", func(x *impl.Nest) { x.Strides = x.Strides[:1] })
	wrong("a count too few", func(x *impl.Nest) { x.Counts = x.Counts[:1] })
	wrong("four loops", func(x *impl.Nest) { x.Counts, x.Strides = repeated(1, 4), repeated(1, 4) })
	wrong("a count 0 inside", func(x *impl.Nest) { x.Counts, x.Strides = []int64{60, 60, 0}, repeated(1, 3) })
	wrong("no accesses", func(x *impl.Nest) { x.Counts, x.Strides = []int64{0, 60, 60}, repeated(1, 3) })
}

// traceWords is the form of the words of a trace, apart from what stands beside them.
var traceWords = regexp.MustCompile(`^(0|[1-9]|[1-5][0-9]|6[0-3])(w?)(?:\*([2-9]|[1-5][0-9]|60))?$`)

// traceOf returns the trace with a text by taking it apart at all blanks.
func traceOf(s string) ([]impl.Access, bool) {
	if s == "" {
		return nil, true
	}
	var trace []impl.Access
	for _, word := range strings.Split(s, " ") {
		parts := traceWords.FindStringSubmatch(word)
		if parts == nil {
			return nil, false
		}
		var address, count int64 = 0, 1
		fmt.Sscan(parts[1], &address)
		if parts[3] != "" {
			fmt.Sscan(parts[3], &count)
		}
		x := access(int64(len(parts[2])), address)
		if len(trace) > 0 && trace[len(trace)-1] == x || len(trace)+int(count) > 60 {
			return nil, false
		}
		trace = append(trace, slices.Repeat([]impl.Access{x}, int(count))...)
	}
	return trace, true
}

func TestReadTrace(t *testing.T) {
	good := []string{"", "0", "63", "5 5w*2 3", "5w 5", "5 5w", "5*60", "5*59 4", "5*30 6*30", "10*10 1", "5w*2 5*2", "0w 0", "60", "59*2"}
	near := []string{"5*1", "5*01", "5*0", "5 5", "5w 5w", "5 5*2", "5*2 5", "5w*2 5w", "05", "00", "64", "65", "100", "5W", "5*", "5*w", "5w*", "*", "w", "*2", "w*2", "5  6", "5 6 ", " 5", " ", "5 ", "5\t6", "5\n", "\n",
		"5,6", "-1", "-0", "+5", "5*+2", "5*-2", "5*61", "5*60 6", "5*30 6*31", "5*2w", "5ww", "5w w", "5*2*2", "5**2", "5 *2", "5* 2", "0x1", "5*1e1", "5.", "none", "5*1000000001", "5*9223372036854775808", "5*18446744073709551618", "5*4294967298", "5\x00", "\xd9\xa5", "5\xc2\xa06", "5*002", "5*2 ", "5*2  6", strings.Repeat("1 2 ", 30)}
	for _, s := range append(good, near...) {
		want, ok := traceOf(s)
		if ok != slices.Contains(good, s) {
			t.Fatalf("%q is in the wrong list", s)
		}
		expect(t, s, of(impl.ReadTrace(s)), of(want, ok))
	}
	expect(t, "60 words", of(impl.ReadTrace(strings.Repeat("1 2w ", 29)+"1 2w")), of(slices.Repeat([]impl.Access{access(0, 1), access(1, 2)}, 30), true))
	expect(t, "61 words", of(impl.ReadTrace(strings.Repeat("1 2w ", 30)+"1")), of([]impl.Access(nil), false))
	for _, s := range listsUpTo(6, '0', '6', '4', 'w', '*', ' ', '2') {
		text := ""
		for _, b := range s {
			text += string(rune(b))
		}
		want, ok := traceOf(text)
		got, is := impl.ReadTrace(text)
		if is != ok || !slices.Equal(got, want) {
			t.Fatalf("%q: got %v, %v, want %v, %v", text, got, is, want, ok)
		}
	}
}

// TestTracesAndBack: a trace is read from its text, and its text is in the form that the document tells.
func TestTracesAndBack(t *testing.T) {
	expect(t, "example", of(impl.TraceText([]impl.Access{access(0, 5), access(1, 5), access(1, 5), access(0, 3)})), of("5 5w*2 3", true))
	expect(t, "no accesses", of(impl.TraceText(nil)), of("", true))
	for seed := range uint64(400) {
		kinds, addresses := drawn(seed, int(seed%61), 2), drawn(seed+1000, int(seed%61), []int64{1, 2, 3, 64}[seed%4])
		var trace []impl.Access
		for i := range kinds {
			trace = append(trace, access(kinds[i], addresses[i]))
		}
		s, ok := impl.TraceText(trace)
		read, is := traceOf(s)
		if !ok || !is || !slices.Equal(read, trace) {
			t.Errorf("%v: the text is %q, %v", trace, s, ok)
		}
		expect(t, s, of(impl.ReadTrace(s)), of(trace, true))
	}
}
