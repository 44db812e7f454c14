package impl

import (
	"cmp"
	"math/bits"
	"strconv"
	"strings"
)

// Limits of chapter 1.
const (
	MaxName  = 8
	MaxValue = 1000000000
	MaxItems = 80
	SeedBase = 2147483647
	MaxDrawn = 80
)

// seedFactor makes NextSeed run through all seeds before one comes again.
const seedFactor = 48271

// Numbers of the check letters.
const (
	letters     = 26
	checkStart  = 1
	checkFactor = 31
	checkBase   = letters * letters
)

// emptyListText differs from all texts of numbers, so that each list has a text of its own.
const emptyListText = "none"

// run is an item and how many times it stands in a row.
type run[T comparable] struct {
	item  T
	count int64
}

// IsName reports whether s is a name.
func IsName(s string) bool {
	if len(s) < 1 || len(s) > MaxName {
		return false
	}
	for _, r := range s {
		if r < 'a' || r > 'z' {
			return false
		}
	}
	return true
}

// Decimal returns n in decimal.
func Decimal(n int64) string {
	return strconv.FormatInt(n, 10)
}

// ReadDecimal returns the number with the given decimal text.
func ReadDecimal(s string) (int64, bool) {
	n, err := strconv.ParseInt(s, 10, 64)
	// ParseInt also accepts forms that Decimal does not write, such as +1 and 007.
	if err != nil || !isNumber(n) || Decimal(n) != s {
		return 0, false
	}
	return n, true
}

// ReduceRatio returns a ratio in lowest terms.
func ReduceRatio(a, b int64) (int64, int64, bool) {
	if !isRatio(a, b) {
		return 0, 0, false
	}
	d := greatestDivisor(a, b)
	return a / d, b / d, true
}

// CompareRatios compares two ratios.
func CompareRatios(a, b, c, d int64) (int64, bool) {
	if !isRatio(a, b) || !isRatio(c, d) {
		return 0, false
	}
	// The products are at most MaxValue squared, which an int64 holds.
	return int64(cmp.Compare(a*d, c*b)), true
}

// RatioText returns the text of a ratio.
func RatioText(a, b int64) (string, bool) {
	top, bottom, ok := ReduceRatio(a, b)
	if !ok {
		return "", false
	}
	if bottom == 1 {
		return Decimal(top), true
	}
	return Decimal(top) + "/" + Decimal(bottom), true
}

// ParityOf returns the parity of some bits of a number.
func ParityOf(n, mask int64) (int64, bool) {
	if !isBetween(n, 0, MaxValue) || !isBetween(mask, 0, MaxValue) {
		return 0, false
	}
	return int64(bits.OnesCount64(uint64(n&mask)) % 2), true
}

// NextSeed returns the seed after a seed.
func NextSeed(seed int64) (int64, bool) {
	if !isSeed(seed) {
		return 0, false
	}
	return seedAfter(seed), true
}

// SeedList returns numbers that follow from a seed.
func SeedList(seed, count, below int64) ([]int64, bool) {
	if !isSeed(seed) || !isBetween(count, 0, MaxDrawn) || !isBetween(below, 1, MaxValue) {
		return nil, false
	}
	list := make([]int64, 0, count)
	for range count {
		seed = seedAfter(seed)
		list = append(list, seed%below)
	}
	return list, true
}

// SeedOrder returns the first numbers in an order that follows from a seed.
func SeedOrder(seed, count int64) ([]int64, bool) {
	if !isSeed(seed) || !isBetween(count, 0, MaxDrawn) {
		return nil, false
	}
	order := make([]int64, 0, count)
	for i := range count {
		order = append(order, i)
	}
	for i := count - 1; i >= 1; i-- {
		seed = seedAfter(seed)
		j := seed % (i + 1)
		order[i], order[j] = order[j], order[i]
	}
	return order, true
}

// RunsOf returns the runs of a list.
func RunsOf(list []int64) ([][]int64, bool) {
	if !isList(list) {
		return nil, false
	}
	var runs [][]int64
	for _, r := range encodeRuns(list) {
		runs = append(runs, []int64{r.item, r.count})
	}
	return runs, true
}

// FromRuns returns the list with some runs.
func FromRuns(runs [][]int64) ([]int64, bool) {
	var list []int64
	for i, r := range runs {
		// The room that is left bounds the count before anything is added, so that no sum overflows.
		room := int64(MaxItems - len(list))
		if len(r) != 2 || !isNumber(r[0]) || !isBetween(r[1], 1, room) {
			return nil, false
		}
		if i > 0 && runs[i-1][0] == r[0] {
			return nil, false
		}
		list = appendRun(list, run[int64]{r[0], r[1]})
	}
	return list, true
}

// ListText returns the text of a list.
func ListText(list []int64) (string, bool) {
	if !isList(list) {
		return "", false
	}
	if len(list) == 0 {
		return emptyListText, true
	}
	var words []string
	for _, n := range list {
		words = append(words, Decimal(n))
	}
	return strings.Join(words, " "), true
}

// ReadList returns the list with the given text.
func ReadList(s string) ([]int64, bool) {
	if s == emptyListText {
		return nil, true
	}
	// One word more than a list may have is enough to see that there are too many.
	words := strings.SplitN(s, " ", MaxItems+1)
	if len(words) > MaxItems {
		return nil, false
	}
	var list []int64
	for _, word := range words {
		n, ok := ReadDecimal(word)
		if !ok {
			return nil, false
		}
		list = append(list, n)
	}
	return list, true
}

// CheckLetters returns the check letters of a text.
func CheckLetters(s string) string {
	check := checkStart
	for i := range len(s) {
		check = (checkFactor*check + int(s[i])) % checkBase
	}
	return string([]byte{byte('a' + check/letters), byte('a' + check%letters)})
}

// isBetween reports whether n is one of the numbers from low to high.
func isBetween(n, low, high int64) bool {
	return low <= n && n <= high
}

// isNumber reports whether n may stand in a list of chapter 1.
func isNumber(n int64) bool {
	return isBetween(n, -MaxValue, MaxValue)
}

// isRatio reports whether a / b is a ratio.
func isRatio(a, b int64) bool {
	return isBetween(a, 0, MaxValue) && isBetween(b, 1, MaxValue)
}

// isSeed reports whether seed is a seed.
func isSeed(seed int64) bool {
	return isBetween(seed, 1, SeedBase-1)
}

// isList reports whether list is a list of chapter 1.
func isList(list []int64) bool {
	if len(list) > MaxItems {
		return false
	}
	for _, n := range list {
		if !isNumber(n) {
			return false
		}
	}
	return true
}

// seedAfter returns the seed after a seed that is known to be one.
func seedAfter(seed int64) int64 {
	return seedFactor * seed % SeedBase
}

// greatestDivisor returns the greatest number that divides both a and b, which are not both 0.
func greatestDivisor(a, b int64) int64 {
	for b != 0 {
		a, b = b, a%b
	}
	return a
}

// encodeRuns returns, in order, the longest sequences of equal neighbours.
func encodeRuns[T comparable](items []T) []run[T] {
	var runs []run[T]
	for i, item := range items {
		if i == 0 || item != items[i-1] {
			runs = append(runs, run[T]{item, 0})
		}
		runs[len(runs)-1].count++
	}
	return runs
}

// appendRun returns the items with those of a run behind them.
func appendRun[T comparable](items []T, r run[T]) []T {
	for range r.count {
		items = append(items, r.item)
	}
	return items
}
