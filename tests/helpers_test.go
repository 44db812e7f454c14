package tests

import (
	"fmt"
	"math"
	"math/rand/v2"
	"slices"
	"strings"
	"testing"

	"loop.example/g01112/impl"
)

// mark stands in memory that a function must leave as it is.
const mark = -7777777

// edgeNumbers are numbers at, beside and far beyond the limits of chapter 1.
func edgeNumbers() []int64 {
	numbers := []int64{math.MinInt64, math.MinInt64 + 1, math.MaxInt64 - 1, math.MaxInt64, 1 << 32, 1<<32 + 1, 1 << 62}
	for _, limit := range []int64{0, impl.MaxDrawn, impl.MaxValue, -impl.MaxValue, impl.SeedBase, -impl.SeedBase} {
		numbers = append(numbers, limit-2, limit-1, limit, limit+1, limit+2)
	}
	return numbers
}

// repeated returns a list with n times the number.
func repeated(number int64, n int) []int64 {
	return slices.Repeat([]int64{number}, n)
}

// roomy returns a copy of the list with marks in its unused capacity.
func roomy(list []int64) []int64 {
	copied := append(slices.Clone(list), mark, mark, mark)
	return copied[:len(list)]
}

// expectUntouched fails the test unless the result of roomy(list) is still as it was made.
func expectUntouched(t *testing.T, what string, list, made []int64) {
	t.Helper()
	if !slices.Equal(list, made) || !slices.Equal(made[len(made):len(made)+3], []int64{mark, mark, mark}) {
		t.Errorf("%s changed its argument: %v is now %v", what, list, made[:len(made)+3])
	}
}

// overwrite puts marks into the whole memory of a list, also where it is unused.
func overwrite(list []int64) {
	list = list[:cap(list)]
	for i := range list {
		list[i] = mark
	}
}

// show returns the text of results, in which nil and empty lists are the same.
func show(results ...any) string {
	return fmt.Sprintf("%#v", flat(results))
}

// flat returns texts of results that tell texts from numbers, but not nil from empty.
func flat(results []any) []string {
	var texts []string
	for _, r := range results {
		if s, ok := r.(string); ok {
			texts = append(texts, fmt.Sprintf("%q", s))
		} else {
			texts = append(texts, fmt.Sprintf("%v", r))
		}
	}
	return texts
}

// expect fails the test unless the results are the wanted ones.
func expect(t *testing.T, what string, got, want []any) {
	t.Helper()
	if g, w := show(got...), show(want...); g != w {
		t.Errorf("%q: got %s, want %s", what, g, w)
	}
}

// of collects the results of a call.
func of(results ...any) []any {
	return results
}

// listsUpTo returns all lists of some numbers with at most a length, the shorter ones first.
func listsUpTo(length int, numbers ...int64) [][]int64 {
	all := [][]int64{nil}
	last := all
	for range length {
		var longer [][]int64
		for _, list := range last {
			for _, n := range numbers {
				longer = append(longer, append(slices.Clone(list), n))
			}
		}
		all = append(all, longer...)
		last = longer
	}
	return all
}

// lettersAndDigits returns for each word of a letter and a digit the place of the letter among all letters, and the digit.
func lettersAndDigits(s, letters string) [][2]int64 {
	var pairs [][2]int64
	for _, word := range strings.Fields(s) {
		pairs = append(pairs, [2]int64{int64(strings.IndexByte(letters, word[0])), int64(word[1] - '0')})
	}
	return pairs
}

// drawn returns a list of numbers below some number, which follow from a seed alone.
func drawn(seed uint64, length int, below int64) []int64 {
	source := rand.New(rand.NewPCG(seed, 7))
	list := make([]int64, length)
	for i := range list {
		list[i] = source.Int64N(below)
	}
	return list
}
