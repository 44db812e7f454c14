package tests

// Promise 1 for chapter 1: totality, purity, and zero values beside a failure.

import (
	"fmt"
	"slices"
	"strings"
	"sync"
	"testing"

	"loop.example/g01112/impl"
)

// oddTexts are texts that are no names, numbers or lists, or nearly are.
func oddTexts() []string {
	return []string{
		"", " ", "  ", "\x00", "\n", "\xff", "\xc3", "\xc3\xa4", "-", "--", "+", "a", "lru", "abcdefgh", "abcdefghi",
		"0", "-0", "007", "+1", "1 ", " 1", "1  2", "1 2", "none", "none ", "none none", "1000000000", "1000000001",
		"-1000000000", "-1000000001", "9223372036854775807", "9223372036854775808", "-9223372036854775809",
		strings.Repeat("9", 5000), strings.Repeat("0", 5000), strings.Repeat(" ", 5000), strings.Repeat("1 ", 5000),
		strings.Repeat("z", 5000), strings.Repeat("\xff", 5000),
	}
}

// oddLists are lists inside and outside the limits.
func oddLists() [][]int64 {
	lists := [][]int64{nil, {}, {5, 5, 7}, repeated(3, impl.MaxItems), repeated(3, impl.MaxItems+1), repeated(0, 5000)}
	for _, n := range edgeNumbers() {
		lists = append(lists, []int64{n}, []int64{1, n}, []int64{n, n, 2})
	}
	return lists
}

// oddRuns are lists of rows that are runs or nearly are.
func oddRuns() [][][]int64 {
	rows := [][][]int64{nil, {}, {nil}, {{}}, {{1}}, {{1, 2, 3}}, {{5, 2}, {7, 1}}, {{5, 1}, {5, 1}}, {{5, 2}, nil}, {nil, {5, 2}}}
	for _, n := range edgeNumbers() {
		rows = append(rows, [][]int64{{n, 1}}, [][]int64{{1, n}}, [][]int64{{1, n}, {2, n}}, [][]int64{{1, n}, {2, n}, {3, 2}}, [][]int64{{1, 1}, {n, n}})
	}
	return rows
}

// basicCalls returns a call of every function of chapter 1 for many arguments.
func basicCalls() []func() string {
	var calls []func() string
	add := func(name string, call func() []any) {
		calls = append(calls, func() string { return name + " " + show(call()...) })
	}
	for _, s := range oddTexts() {
		add("IsName", func() []any { return of(impl.IsName(s)) })
		add("ReadDecimal", func() []any { return of(impl.ReadDecimal(s)) })
		add("ReadList", func() []any { return of(impl.ReadList(s)) })
		add("CheckLetters", func() []any { return of(impl.CheckLetters(s)) })
	}
	for _, list := range oddLists() {
		add("RunsOf", func() []any { return of(impl.RunsOf(list)) })
		add("ListText", func() []any { return of(impl.ListText(list)) })
	}
	for _, runs := range oddRuns() {
		add("FromRuns", func() []any { return of(impl.FromRuns(runs)) })
	}
	for _, a := range edgeNumbers() {
		add("Decimal", func() []any { return of(impl.Decimal(a)) })
		add("NextSeed", func() []any { return of(impl.NextSeed(a)) })
		for _, b := range edgeNumbers() {
			add("ReduceRatio", func() []any { return of(impl.ReduceRatio(a, b)) })
			add("RatioText", func() []any { return of(impl.RatioText(a, b)) })
			add("ParityOf", func() []any { return of(impl.ParityOf(a, b)) })
			add("SeedOrder", func() []any { return of(impl.SeedOrder(a, b)) })
			add("CompareRatios", func() []any { return of(impl.CompareRatios(a, b, b, a)) })
			add("SeedList", func() []any { return of(impl.SeedList(a, b, 10)) })
			add("SeedList", func() []any { return of(impl.SeedList(a, 3, b)) })
			add("SeedList", func() []any { return of(impl.SeedList(7, a, b)) })
		}
	}
	return calls
}

// TestBasicsSameResults: the results do not depend on what was called before, nor on what is called meanwhile.
func TestBasicsSameResults(t *testing.T) {
	calls := basicCalls()
	first := make([]string, len(calls))
	for i, call := range calls {
		first[i] = call()
	}
	for i := len(calls) - 1; i >= 0; i-- {
		if again := calls[i](); again != first[i] {
			t.Errorf("first %s, then %s", first[i], again)
		}
	}
	var group sync.WaitGroup
	for range 4 {
		group.Go(func() {
			for i, call := range calls {
				if again := call(); again != first[i] {
					t.Errorf("alone %s, beside others %s", first[i], again)
				}
			}
		})
	}
	group.Wait()
}

// TestBasicsSucceedExactly: over a grid of edges, a function of numbers succeeds exactly if its arguments are as required,
// and returns zero values otherwise.
func TestBasicsSucceedExactly(t *testing.T) {
	within := func(n, low, high int64) bool { return n >= low && n <= high }
	top := func(n int64) bool { return within(n, 0, impl.MaxValue) }
	bottom := func(n int64) bool { return within(n, 1, impl.MaxValue) }
	seed := func(n int64) bool { return within(n, 1, impl.SeedBase-1) }
	drawn := func(n int64) bool { return within(n, 0, impl.MaxDrawn) }
	var none []int64
	check := func(what string, valid bool, got, zero []any) {
		t.Helper()
		if ok := got[len(got)-1].(bool); ok != valid {
			t.Errorf("%s: succeeds %v, want %v", what, ok, valid)
		} else if !ok {
			expect(t, what, got, zero)
		}
	}
	for _, a := range edgeNumbers() {
		check(fmt.Sprint("NextSeed ", a), seed(a), of(impl.NextSeed(a)), of(0, false))
		for _, b := range edgeNumbers() {
			at := fmt.Sprint(" ", a, " ", b)
			check("ReduceRatio"+at, top(a) && bottom(b), of(impl.ReduceRatio(a, b)), of(0, 0, false))
			check("RatioText"+at, top(a) && bottom(b), of(impl.RatioText(a, b)), of("", false))
			check("CompareRatios 1 2"+at, top(a) && bottom(b), of(impl.CompareRatios(1, 2, a, b)), of(0, false))
			check("CompareRatios"+at+" 1 2", top(a) && bottom(b), of(impl.CompareRatios(a, b, 1, 2)), of(0, false))
			check("ParityOf"+at, top(a) && top(b), of(impl.ParityOf(a, b)), of(0, false))
			check("SeedOrder"+at, seed(a) && drawn(b), of(impl.SeedOrder(a, b)), of(none, false))
			check("SeedList"+at+" 10", seed(a) && drawn(b), of(impl.SeedList(a, b, 10)), of(none, false))
			check("SeedList 7"+at, drawn(a) && bottom(b), of(impl.SeedList(7, a, b)), of(none, false))
		}
	}
}

// TestBasicsLeaveLists: a list that is an argument stays as it is, also behind its end.
func TestBasicsLeaveLists(t *testing.T) {
	for _, list := range oddLists() {
		made := roomy(list)
		impl.RunsOf(made)
		expectUntouched(t, "RunsOf", list, made)
		impl.ListText(made)
		expectUntouched(t, "ListText", list, made)
	}
}

// TestBasicsLeaveRuns: the rows of runs and the list of the rows stay as they are, also behind their ends.
func TestBasicsLeaveRuns(t *testing.T) {
	for _, runs := range oddRuns() {
		extra := []int64{mark}
		made := make([][]int64, 0, len(runs)+1)
		for _, row := range runs {
			made = append(made, roomy(row))
		}
		made = append(made, extra)[:len(runs)]
		rows := slices.Clone(made)
		impl.FromRuns(made)
		for i, row := range runs {
			if len(made[i]) != len(row) || cap(made[i]) != cap(rows[i]) || &made[i][:1][0] != &rows[i][:1][0] {
				t.Fatalf("FromRuns replaced the row %d of %v", i, runs)
			}
			expectUntouched(t, "FromRuns", row, made[i])
		}
		if last := made[:len(runs)+1][len(runs)]; len(last) != 1 || last[0] != mark {
			t.Errorf("FromRuns wrote behind the rows of %v", runs)
		}
	}
}

// TestBasicsNewMemory: what is done to a list that was returned changes no argument and no later result.
func TestBasicsNewMemory(t *testing.T) {
	calls := map[string]func() ([]int64, bool){
		"SeedList":        func() ([]int64, bool) { return impl.SeedList(1, 20, 10) },
		"SeedList, none":  func() ([]int64, bool) { return impl.SeedList(1, 0, 10) },
		"SeedOrder":       func() ([]int64, bool) { return impl.SeedOrder(1, 20) },
		"SeedOrder, none": func() ([]int64, bool) { return impl.SeedOrder(1, 0) },
		"FromRuns":        func() ([]int64, bool) { return impl.FromRuns([][]int64{{5, 2}, {7, 1}}) },
		"FromRuns, none":  func() ([]int64, bool) { return impl.FromRuns(nil) },
		"ReadList":        func() ([]int64, bool) { return impl.ReadList("3 -1 3") },
		"ReadList, none":  func() ([]int64, bool) { return impl.ReadList("none") },
	}
	for name, call := range calls {
		one, ok := call()
		kept := slices.Clone(one)
		two, _ := call()
		overwrite(one)
		three, _ := call()
		if !ok || !slices.Equal(two, kept) || !slices.Equal(three, kept) {
			t.Errorf("%s: %v, but %v and %v after the first one was overwritten", name, kept, two, three)
		}
	}
}

// TestBasicsNewRows: no row of runs shares memory with the list, with another row or with a later result.
func TestBasicsNewRows(t *testing.T) {
	list := []int64{5, 5, 7, 1, 1, 1}
	want := "[[5 2] [7 1] [1 3]]"
	for i := range 3 {
		runs, ok := impl.RunsOf(list)
		if got := fmt.Sprint(runs); !ok || got != want {
			t.Fatalf("runs %s, want %s", got, want)
		}
		later, _ := impl.RunsOf(list)
		overwrite(runs[i])
		for j := range runs {
			if i != j && fmt.Sprint(runs[j]) != fmt.Sprint(later[j]) {
				t.Errorf("the rows %d and %d share memory", i, j)
			}
		}
		if got := fmt.Sprint(later); got != want || !slices.Equal(list, []int64{5, 5, 7, 1, 1, 1}) {
			t.Errorf("the row %d shares memory with the list or another result: %v, %s", i, list, got)
		}
	}
	runs := [][]int64{{5, 2}, {7, 1}}
	made, _ := impl.FromRuns(runs)
	overwrite(made)
	if fmt.Sprint(runs) != "[[5 2] [7 1]]" {
		t.Errorf("the list of FromRuns shares memory with the runs, now %v", runs)
	}
}

// TestBasicsNilIsEmpty: nil and empty lists are the same value.
func TestBasicsNilIsEmpty(t *testing.T) {
	expect(t, "RunsOf", of(impl.RunsOf([]int64{})), of(impl.RunsOf(nil)))
	expect(t, "ListText", of(impl.ListText([]int64{})), of(impl.ListText(nil)))
	expect(t, "FromRuns", of(impl.FromRuns([][]int64{})), of(impl.FromRuns(nil)))
	expect(t, "FromRuns", of(impl.FromRuns([][]int64{{}})), of(impl.FromRuns([][]int64{nil})))
}
