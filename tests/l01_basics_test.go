package tests

// Promise 2 (chapter 1): ratios are exact, numbers follow from seeds, and lists are made of their runs and read from their texts.

import (
	"fmt"
	"math"
	"math/big"
	"slices"
	"strconv"
	"strings"
	"testing"

	"loop.example/g01112/impl"
)

func TestBasicsLimits(t *testing.T) {
	expect(t, "limits", of(impl.MaxName, impl.MaxValue, impl.MaxItems, impl.SeedBase, impl.MaxDrawn), of(8, 1000000000, 80, 2147483647, 80))
}

func TestIsName(t *testing.T) {
	for _, s := range []string{"a", "z", "lru", "abcdefg", "abcdefgh", "zzzzzzzz", "none"} {
		expect(t, s, of(impl.IsName(s)), of(true))
	}
	for _, s := range []string{"", "abcdefghi", "lru ", " lru", "a b", "a1", "Lru", "lrU", "a-b", "a_b", "\xc3\xa4", "abcdef\xc3\xa4", "a\x00", "a\n", "\xff", "\xef\xbd\x81", strings.Repeat("a", 300), strings.Repeat("a", 256+3)} {
		expect(t, s, of(impl.IsName(s)), of(false))
	}
}

// TestIsNameBytes: each of the 8 bytes of a name must be a letter, and each letter may be each of them.
func TestIsNameBytes(t *testing.T) {
	for b := range 256 {
		letter := strings.Contains("abcdefghijklmnopqrstuvwxyz", string([]byte{byte(b)}))
		for at := range 8 {
			s := []byte("mmmmmmmm")
			s[at] = byte(b)
			if impl.IsName(string(s)) != letter || impl.IsName(string(s[at:at+1])) != letter {
				t.Errorf("byte %d at %d: want %v", b, at, letter)
			}
		}
	}
}

func TestDecimal(t *testing.T) {
	texts := map[int64]string{0: "0", 7: "7", -1: "-1", 10: "10", -120: "-120", 1000000000: "1000000000", -1000000001: "-1000000001",
		math.MaxInt64: "9223372036854775807", math.MinInt64: "-9223372036854775808", math.MinInt64 + 1: "-9223372036854775807"}
	for n, text := range texts {
		expect(t, text, of(impl.Decimal(n)), of(text))
	}
	for n := int64(1); n > 0 && n < 1<<61; n *= 3 {
		expect(t, "decimal", of(impl.Decimal(n), impl.Decimal(-n)), of(fmt.Sprint(n), fmt.Sprint(-n)))
	}
}

func TestReadDecimal(t *testing.T) {
	for _, n := range []int64{0, 1, -1, 9, 10, -10, 12, -12, 101, 999999999, -999999999, impl.MaxValue, -impl.MaxValue} {
		expect(t, fmt.Sprint(n), of(impl.ReadDecimal(impl.Decimal(n))), of(n, true))
	}
	for _, n := range []int64{impl.MaxValue + 1, -impl.MaxValue - 1, 1 << 32, 1<<32 + 1, math.MaxInt64, math.MinInt64} {
		expect(t, fmt.Sprint(n), of(impl.ReadDecimal(impl.Decimal(n))), of(0, false))
	}
	for n := int64(-1200); n <= 1200; n++ {
		expect(t, fmt.Sprint(n), of(impl.ReadDecimal(fmt.Sprint(n))), of(n, true))
	}
	for _, s := range []string{"", "-", "+", "--1", "-0", "+0", "+1", "00", "007", "-07", "01", "1 ", " 1", "-1 ", "- 1", "1\n", "\t1", "1.0", "1e3", "0x10", "0b1", "1_000", "1,000", "a", "1a", "a1", "none", "\x00", "1\x00", "\xff", "\xd9\xa1", "\xe2\x88\x921", "1-", "-1-", "18446744073709551616", "18446744073709551617", "-18446744073709551615", "9223372036854775808", "4294967297", "10000000000", "01000000000", strings.Repeat("0", 400) + "1", strings.Repeat("1", 400)} {
		expect(t, s, of(impl.ReadDecimal(s)), of(0, false))
	}
}

// commonDivisor tries all numbers, so that it is no copy of the program's way.
func commonDivisor(a, b int64) int64 {
	for d := b; d > 1; d-- {
		if a%d == 0 && b%d == 0 {
			return d
		}
	}
	return 1
}

func TestReduceRatio(t *testing.T) {
	expect(t, "6 / 4", of(impl.ReduceRatio(6, 4)), of(3, 2, true))
	expect(t, "0 / 1", of(impl.ReduceRatio(0, 1)), of(0, 1, true))
	expect(t, "0 / 5", of(impl.ReduceRatio(0, 5)), of(0, 1, true))
	expect(t, "0 / most", of(impl.ReduceRatio(0, impl.MaxValue)), of(0, 1, true))
	expect(t, "most / most", of(impl.ReduceRatio(impl.MaxValue, impl.MaxValue)), of(1, 1, true))
	expect(t, "most / 1", of(impl.ReduceRatio(impl.MaxValue, 1)), of(impl.MaxValue, 1, true))
	expect(t, "1 / most", of(impl.ReduceRatio(1, impl.MaxValue)), of(1, impl.MaxValue, true))
	expect(t, "neighbours", of(impl.ReduceRatio(999999999, impl.MaxValue)), of(999999999, impl.MaxValue, true))
	expect(t, "large", of(impl.ReduceRatio(536870912, 1<<20)), of(512, 1, true))
	expect(t, "fibonacci", of(impl.ReduceRatio(701408733, 433494437)), of(701408733, 433494437, true))
	for a := range int64(61) {
		for b := int64(1); b <= 60; b++ {
			d := commonDivisor(a, b)
			expect(t, fmt.Sprint(a, " / ", b), of(impl.ReduceRatio(a, b)), of(a/d, b/d, true))
			expect(t, fmt.Sprint(a, " / ", b, ", larger"), of(impl.ReduceRatio(a*16666666, b*16666666)), of(a/d, b/d, true))
		}
	}
	for _, r := range [][]int64{{1, 0}, {0, 0}, {1, -1}, {-1, 1}, {-1, -1}, {-6, -4}, {impl.MaxValue + 1, 2}, {2, impl.MaxValue + 1}, {math.MinInt64, -1}, {math.MaxInt64, 1}, {1, math.MinInt64}} {
		expect(t, fmt.Sprint(r), of(impl.ReduceRatio(r[0], r[1])), of(0, 0, false))
	}
}

func TestCompareRatios(t *testing.T) {
	expect(t, "equal", of(impl.CompareRatios(1, 3, 2, 6)), of(0, true))
	expect(t, "greater", of(impl.CompareRatios(1, 2, 1, 3)), of(1, true))
	expect(t, "less", of(impl.CompareRatios(1, 3, 1, 2)), of(-1, true))
	expect(t, "both 0", of(impl.CompareRatios(0, 1, 0, impl.MaxValue)), of(0, true))
	sizes := []int64{1, 2, 3, 7, 12, 999999, 333333333, 333333334, 500000000, 999999937, 999999998, 999999999, 1000000000}
	for _, a := range append([]int64{0}, sizes...) {
		for _, b := range sizes {
			for _, c := range append([]int64{0}, sizes...) {
				for _, d := range sizes {
					want := big.NewRat(a, b).Cmp(big.NewRat(c, d))
					if got, ok := impl.CompareRatios(a, b, c, d); got != int64(want) || !ok {
						t.Errorf("%d / %d and %d / %d: got %d, %v, want %d", a, b, c, d, got, ok, want)
					}
				}
			}
		}
	}
	for at := range 4 {
		for _, n := range []int64{-1, impl.MaxValue + 1, math.MinInt64, math.MaxInt64, 0} {
			r := []int64{1, 2, 1, 2}
			r[at] = n
			if n != 0 || at%2 == 1 {
				expect(t, fmt.Sprint(r), of(impl.CompareRatios(r[0], r[1], r[2], r[3])), of(0, false))
			}
		}
	}
}

func TestRatioText(t *testing.T) {
	texts := map[[2]int64]string{{6, 4}: "3/2", {4, 2}: "2", {0, 7}: "0", {0, 1}: "0", {1, 1}: "1", {7, 7}: "1", {2, 4}: "1/2", {1, 10}: "1/10",
		{impl.MaxValue, 1}: "1000000000", {1, impl.MaxValue}: "1/1000000000", {impl.MaxValue, 999999999}: "1000000000/999999999", {10, 1}: "10"}
	for r, text := range texts {
		expect(t, fmt.Sprint(r), of(impl.RatioText(r[0], r[1])), of(text, true))
	}
	for _, r := range [][]int64{{1, 0}, {0, 0}, {-1, 2}, {1, -2}, {-4, -2}, {impl.MaxValue + 1, 1}, {1, impl.MaxValue + 1}} {
		expect(t, fmt.Sprint(r), of(impl.RatioText(r[0], r[1])), of("", false))
	}
}

func TestParityOf(t *testing.T) {
	expect(t, "example", of(impl.ParityOf(6, 3)), of(1, true))
	for n := range int64(64) {
		for mask := range int64(64) {
			ones := strings.Count(strconv.FormatInt(n&mask, 2), "1")
			expect(t, fmt.Sprint(n, " with ", mask), of(impl.ParityOf(n, mask)), of(ones%2, true))
		}
	}
	for bit := int64(1); bit <= impl.MaxValue; bit *= 2 {
		expect(t, fmt.Sprint("bit ", bit), of(impl.ParityOf(bit, bit)), of(1, true))
		expect(t, fmt.Sprint("bit ", bit, " and 0"), of(impl.ParityOf(bit, 0)), of(0, true))
	}
	expect(t, "limits", of(impl.ParityOf(impl.MaxValue, impl.MaxValue)), of(1, true))
	expect(t, "limit and one less", of(impl.ParityOf(impl.MaxValue, impl.MaxValue-1)), of(0, true))
	for _, n := range []int64{-1, impl.MaxValue + 1, math.MinInt64, math.MaxInt64} {
		expect(t, fmt.Sprint("n ", n), of(impl.ParityOf(n, 1)), of(0, false))
		expect(t, fmt.Sprint("mask ", n), of(impl.ParityOf(1, n)), of(0, false))
	}
}

// seedsAfter returns the count seeds after a seed, reckoned with numbers of any size.
func seedsAfter(seed int64, count int) []int64 {
	var seeds []int64
	at := big.NewInt(seed)
	for range count {
		at.Mul(at, big.NewInt(48271))
		at.Mod(at, big.NewInt(2147483647))
		seeds = append(seeds, at.Int64())
	}
	return seeds
}

// someSeeds are seeds at both limits and between.
func someSeeds() []int64 {
	return []int64{1, 2, 3, 7, 44488, 44489, 48271, 1 << 30, 1<<30 + 1, 1999999999, impl.SeedBase - 2, impl.SeedBase - 1}
}

func TestNextSeed(t *testing.T) {
	expect(t, "after 1", of(impl.NextSeed(1)), of(48271, true))
	expect(t, "after the last", of(impl.NextSeed(impl.SeedBase-1)), of(impl.SeedBase-48271, true))
	for _, seed := range someSeeds() {
		at := seed
		for _, want := range seedsAfter(seed, 200) {
			next, ok := impl.NextSeed(at)
			if next != want || !ok {
				t.Fatalf("after %d: got %d, %v, want %d", at, next, ok, want)
			}
			at = next
		}
	}
	at := int64(1)
	for range 10000 {
		at, _ = impl.NextSeed(at)
	}
	expect(t, "the seed with the number 10000", of(at), of(399268537))
	for _, seed := range []int64{0, -1, impl.SeedBase, impl.SeedBase + 1, math.MinInt64, math.MaxInt64} {
		expect(t, fmt.Sprint("after ", seed), of(impl.NextSeed(seed)), of(0, false))
	}
}

func TestSeedList(t *testing.T) {
	expect(t, "two below 10", of(impl.SeedList(1, 2, 10)), of([]int64{1, 4}, true))
	for _, seed := range someSeeds() {
		seeds := seedsAfter(seed, impl.MaxDrawn)
		for _, below := range []int64{1, 2, 10, 64, 97, impl.MaxValue - 1, impl.MaxValue} {
			var want []int64
			for _, s := range seeds {
				want = append(want, s%below)
			}
			for _, count := range []int64{0, 1, 2, 79, 80} {
				what := fmt.Sprint("seed ", seed, ", count ", count, ", below ", below)
				expect(t, what, of(impl.SeedList(seed, count, below)), of(want[:count], true))
			}
		}
	}
	for _, a := range [][]int64{{0, 1, 5}, {-1, 1, 5}, {impl.SeedBase, 1, 5}, {0, 0, 5}, {1, -1, 5}, {1, 81, 5}, {1, 1, 0}, {1, 1, -1}, {1, 1, impl.MaxValue + 1}, {1, 0, 0}, {1, 0, impl.MaxValue + 1}, {1, math.MinInt64, 5}, {1, math.MaxInt64, 5}, {math.MinInt64, 1, 5}, {1, 1, math.MinInt64}} {
		expect(t, fmt.Sprint(a), of(impl.SeedList(a[0], a[1], a[2])), of([]int64{}, false))
	}
}

// placeOf follows one element of the ascending list through the changes of places and returns where it ends.
func placeOf(element, count int64, seeds []int64) int64 {
	for k := range seeds[:max(count-1, 0)] {
		i := count - 1 - int64(k)
		j := seeds[k] % (i + 1)
		switch element {
		case i:
			element = j
		case j:
			element = i
		}
	}
	return element
}

func TestSeedOrder(t *testing.T) {
	expect(t, "three", of(impl.SeedOrder(1, 3)), of([]int64{2, 0, 1}, true))
	for _, seed := range someSeeds() {
		seeds := seedsAfter(seed, impl.MaxDrawn)
		for _, count := range []int64{0, 1, 2, 3, 4, 6, 20, 79, 80} {
			want := make([]int64, count)
			for element := range count {
				want[placeOf(element, count, seeds)] = element
			}
			expect(t, fmt.Sprint("seed ", seed, ", count ", count), of(impl.SeedOrder(seed, count)), of(want, true))
		}
	}
	for _, a := range [][]int64{{0, 3}, {-1, 3}, {impl.SeedBase, 3}, {0, 0}, {1, -1}, {1, 81}, {1, math.MinInt64}, {1, math.MaxInt64}, {math.MaxInt64, 3}} {
		expect(t, fmt.Sprint(a), of(impl.SeedOrder(a[0], a[1])), of([]int64{}, false))
	}
}

// pairsOf turns numbers into rows of two.
func pairsOf(numbers ...int64) [][]int64 {
	var rows [][]int64
	for row := range slices.Chunk(numbers, 2) {
		rows = append(rows, row)
	}
	return rows
}

// countingList returns the numbers 0, 1 and so on, count of them.
func countingList(count int) []int64 {
	var list []int64
	for i := range count {
		list = append(list, int64(i))
	}
	return list
}

func TestRunsOf(t *testing.T) {
	expect(t, "example", of(impl.RunsOf([]int64{5, 5, 7})), of(pairsOf(5, 2, 7, 1), true))
	expect(t, "empty", of(impl.RunsOf(nil)), of(pairsOf(), true))
	expect(t, "zeros", of(impl.RunsOf([]int64{0, 0})), of(pairsOf(0, 2), true))
	expect(t, "one", of(impl.RunsOf([]int64{-3})), of(pairsOf(-3, 1), true))
	expect(t, "again", of(impl.RunsOf([]int64{1, 2, 2, 1, 1, 1, 2})), of(pairsOf(1, 1, 2, 2, 1, 3, 2, 1), true))
	expect(t, "all equal", of(impl.RunsOf(repeated(9, 80))), of(pairsOf(9, 80), true))
	expect(t, "greatest and least", of(impl.RunsOf([]int64{impl.MaxValue, -impl.MaxValue, -impl.MaxValue})), of(pairsOf(impl.MaxValue, 1, -impl.MaxValue, 2), true))
	runs, ok := impl.RunsOf(countingList(80))
	expect(t, "all different", of(len(runs), runs[79], ok), of(80, []int64{79, 1}, true))
	expect(t, "too many", of(impl.RunsOf(repeated(9, 81))), of(pairsOf(), false))
	for _, n := range []int64{impl.MaxValue + 1, -impl.MaxValue - 1, math.MaxInt64, math.MinInt64} {
		expect(t, fmt.Sprint(n, " first"), of(impl.RunsOf([]int64{n, 1, 1})), of(pairsOf(), false))
		expect(t, fmt.Sprint(n, " last"), of(impl.RunsOf([]int64{1, 1, n})), of(pairsOf(), false))
	}
}

func TestFromRuns(t *testing.T) {
	expect(t, "example", of(impl.FromRuns(pairsOf(5, 2, 7, 1))), of([]int64{5, 5, 7}, true))
	expect(t, "empty", of(impl.FromRuns(nil)), of([]int64{}, true))
	expect(t, "zeros", of(impl.FromRuns(pairsOf(0, 2))), of([]int64{0, 0}, true))
	expect(t, "a number comes again", of(impl.FromRuns(pairsOf(1, 1, 2, 1, 1, 2))), of([]int64{1, 2, 1, 1}, true))
	expect(t, "most in one run", of(impl.FromRuns(pairsOf(-4, 80))), of(repeated(-4, 80), true))
	expect(t, "most in two runs", of(impl.FromRuns(pairsOf(3, 79, 4, 1))), of(append(repeated(3, 79), 4), true))
	expect(t, "greatest and least", of(impl.FromRuns(pairsOf(impl.MaxValue, 1, -impl.MaxValue, 1))), of([]int64{impl.MaxValue, -impl.MaxValue}, true))
	var single [][]int64
	for i := range int64(81) {
		single = append(single, []int64{i, 1})
	}
	expect(t, "80 runs", of(impl.FromRuns(single[:80])), of(countingList(80), true))
	expect(t, "81 runs", of(impl.FromRuns(single)), of([]int64{}, false))
	bad := [][][]int64{
		{nil}, {{}}, {{5}}, {{5, 1, 1}}, {{5, 1}, {}}, {{5, 1}, {6}}, {{5, 1}, {6, 1, 1}}, {{}, {5, 1}},
		pairsOf(5, 1, 5, 1), pairsOf(1, 1, 5, 2, 5, 3), pairsOf(0, 1, 0, 1),
		pairsOf(5, 0), pairsOf(5, -1), pairsOf(5, 1, 6, 0), pairsOf(5, 3, 6, -1), pairsOf(5, math.MinInt64), pairsOf(5, 0, 5, 1), pairsOf(1, 1, 2, 0, 1, 1),
		pairsOf(5, 81), pairsOf(5, 80, 6, 1), pairsOf(5, 40, 6, 41), pairsOf(5, 1, 6, 80), pairsOf(5, math.MaxInt64), pairsOf(5, 1, 6, math.MaxInt64),
		pairsOf(1, math.MaxInt64, 2, math.MaxInt64, 3, 3), pairsOf(1, 1<<62, 2, 1<<62, 3, 1<<62, 4, 1<<62, 5, 1), pairsOf(1, 1<<32, 2, 1),
		pairsOf(impl.MaxValue+1, 1), pairsOf(-impl.MaxValue-1, 1), pairsOf(1, 1, impl.MaxValue+1, 1), pairsOf(math.MinInt64, 1), pairsOf(math.MaxInt64, 1),
	}
	for _, runs := range bad {
		expect(t, fmt.Sprint(runs), of(impl.FromRuns(runs)), of([]int64{}, false))
	}
}

func TestListText(t *testing.T) {
	expect(t, "empty", of(impl.ListText(nil)), of("none", true))
	expect(t, "zero", of(impl.ListText([]int64{0})), of("0", true))
	expect(t, "two", of(impl.ListText([]int64{3, -1})), of("3 -1", true))
	expect(t, "limits", of(impl.ListText([]int64{-impl.MaxValue, impl.MaxValue})), of("-1000000000 1000000000", true))
	expect(t, "most", of(impl.ListText(repeated(-impl.MaxValue, 80))), of(strings.Repeat("-1000000000 ", 79)+"-1000000000", true))
	expect(t, "too many", of(impl.ListText(repeated(1, 81))), of("", false))
	for _, n := range []int64{impl.MaxValue + 1, -impl.MaxValue - 1, math.MaxInt64, math.MinInt64} {
		expect(t, fmt.Sprint(n), of(impl.ListText([]int64{1, n})), of("", false))
		expect(t, fmt.Sprint(n, " first"), of(impl.ListText([]int64{n, 1})), of("", false))
	}
}

func TestReadList(t *testing.T) {
	expect(t, "none", of(impl.ReadList("none")), of([]int64{}, true))
	expect(t, "zero", of(impl.ReadList("0")), of([]int64{0}, true))
	expect(t, "two", of(impl.ReadList("3 -1")), of([]int64{3, -1}, true))
	expect(t, "limits", of(impl.ReadList("1000000000 -1000000000")), of([]int64{impl.MaxValue, -impl.MaxValue}, true))
	expect(t, "most", of(impl.ReadList(strings.Repeat("-1000000000 ", 79)+"-1000000000")), of(repeated(-impl.MaxValue, 80), true))
	expect(t, "too many", of(impl.ReadList(strings.Repeat("1 ", 80)+"1")), of([]int64{}, false))
	bad := []string{"", " ", "  ", " 1", "1 ", "1  2", "1 2 ", " 1 2", "1\t2", "1\n2", "1\n", "1,2", "1, 2", "[1 2]", "1;2", "1\xc2\xa02", "1\x002",
		"None", "NONE", "none ", " none", "none none", "1 none", "none 1", "non", "nonee", "nil", "-", "1 -", "-0", "1 -0", "007", "1 007", "+1", "1 +1", "1 2x", "x 1",
		"1000000001", "1 -1000000001", "1 9223372036854775808", "18446744073709551617", strings.Repeat("1 ", 80), strings.Repeat("1 ", 5000), strings.Repeat(" ", 5000)}
	for _, s := range bad {
		expect(t, s, of(impl.ReadList(s)), of([]int64{}, false))
	}
}

// drawnLists are lists with short and long runs that follow from seeds.
func drawnLists(t *testing.T) [][]int64 {
	lists := [][]int64{nil, repeated(0, 80), countingList(80), {impl.MaxValue, -impl.MaxValue}}
	for seed := int64(1); seed <= 60; seed++ {
		for _, below := range []int64{1, 2, 3, 50, impl.MaxValue} {
			list, ok := impl.SeedList(seed*1000003, seed+20, below)
			if !ok {
				t.Fatalf("no list for the seed %d", seed)
			}
			for i := range list {
				if list[i]%3 == 1 {
					list[i] = -list[i]
				}
			}
			lists = append(lists, list)
		}
	}
	return lists
}

// TestListsAndBack: each list is made of its runs and read from its text, and its runs are as long as they can be.
func TestListsAndBack(t *testing.T) {
	for _, list := range drawnLists(t) {
		runs, ok := impl.RunsOf(list)
		expect(t, fmt.Sprint("runs of ", list), of(ok), of(true))
		for i, r := range runs {
			if len(r) != 2 || r[1] < 1 || i > 0 && runs[i-1][0] == r[0] {
				t.Errorf("the runs of %v are %v", list, runs)
			}
		}
		expect(t, fmt.Sprint("from ", runs), of(impl.FromRuns(runs)), of(list, true))
		text, ok := impl.ListText(list)
		want := strings.Trim(fmt.Sprint(list), "[]")
		if len(list) == 0 {
			want = "none"
		}
		expect(t, fmt.Sprint("text of ", list), of(text, ok), of(want, true))
		expect(t, fmt.Sprint("list of ", text), of(impl.ReadList(text)), of(list, true))
	}
}

// TestNearTexts: a text that differs by one byte from that of a list is read exactly if it is the text of what is read.
func TestNearTexts(t *testing.T) {
	for _, text := range []string{"none", "0", "10", "-7", "5 -12 0", "1000000000 3", "-1000000000"} {
		for at := range len(text) + 1 {
			near := []string{text[:at] + text[min(at+1, len(text)):]}
			for b := range 256 {
				near = append(near, text[:at]+string([]byte{byte(b)})+text[at:])
				if at < len(text) {
					near = append(near, text[:at]+string([]byte{byte(b)})+text[at+1:])
				}
			}
			for _, s := range near {
				list, ok := impl.ReadList(s)
				back, _ := impl.ListText(list)
				if want := isListText(s); ok != want || ok && back != s || !ok && len(list) != 0 {
					t.Errorf("%q: got %v, %v, want %v", s, list, ok, want)
				}
			}
		}
	}
}

// isListText reports by its form alone whether s is the text of a list.
func isListText(s string) bool {
	if s == "none" {
		return true
	}
	for _, word := range strings.Split(s, " ") {
		digits := strings.TrimPrefix(word, "-")
		if digits == "" || digits[0] == '0' && word != "0" || len(digits) > 10 || len(digits) == 10 && digits > "1000000000" {
			return false
		}
		if strings.Trim(digits, "0123456789") != "" {
			return false
		}
	}
	return true
}

// lettersOf reckons the check number of the whole text at once: 31 to the power of the length, and each byte times a power.
func lettersOf(s string) string {
	check := new(big.Int).Exp(big.NewInt(31), big.NewInt(int64(len(s))), nil)
	for i := range len(s) {
		power := new(big.Int).Exp(big.NewInt(31), big.NewInt(int64(len(s)-1-i)), nil)
		check.Add(check, power.Mul(power, big.NewInt(int64(s[i]))))
	}
	n := check.Mod(check, big.NewInt(676)).Int64()
	alphabet := "abcdefghijklmnopqrstuvwxyz"
	return alphabet[n/26:n/26+1] + alphabet[n%26:n%26+1]
}

func TestCheckLetters(t *testing.T) {
	expect(t, "empty", of(impl.CheckLetters("")), of("ab"))
	expect(t, "a", of(impl.CheckLetters("a")), of("ey"))
	expect(t, "byte 0", of(impl.CheckLetters("\x00")), of("bf"))
	expect(t, "byte 255", of(impl.CheckLetters("\xff")), of("la"))
	seen := map[string]bool{}
	for b := range 256 {
		one := string([]byte{byte(b)})
		seen[impl.CheckLetters(one)] = true
		for _, s := range []string{one, one + "a", "a" + one, one + one, "\xc3" + one, one + "\xa4\xe2\x82"} {
			expect(t, strconv.Quote(s), of(impl.CheckLetters(s)), of(lettersOf(s)))
		}
	}
	if len(seen) != 256 {
		t.Errorf("the single bytes have %d different check letters, want 256", len(seen))
	}
	for _, s := range []string{"trace 5*3", "ab run", "\xe2\x82\xac\n", "a\x00b", strings.Repeat("\xff", 1000), strings.Repeat("none ", 800), "ab" + "ba"} {
		expect(t, s, of(impl.CheckLetters(s)), of(lettersOf(s)))
	}
}

// TestCheckLettersAll: every pair of letters is that of some text, from aa to zz.
func TestCheckLettersAll(t *testing.T) {
	seen := map[string]bool{}
	for a := range 256 {
		for b := range 256 {
			letters := impl.CheckLetters(string([]byte{byte(a), byte(b)}))
			if len(letters) != 2 || !impl.IsName(letters) {
				t.Fatalf("the check letters %q", letters)
			}
			seen[letters] = true
		}
	}
	if len(seen) != 26*26 {
		t.Errorf("%d different check letters, want %d", len(seen), 26*26)
	}
}
