package tests

// Promise 4 (chapter 3): a policy is its steps, known policies keep what they say, uses tell policies exactly if they differ,
// and what a policy has forgotten is gone.

import (
	"fmt"
	"math"
	"slices"
	"strings"
	"testing"

	"loop.example/g01112/impl"
)

// policyWithText returns the policy with a text whose form is right, without asking the program.
func policyWithText(s string) impl.Policy {
	var p impl.Policy
	lists := strings.FieldsFunc(s, func(r rune) bool { return r == '/' || r == '|' })
	for _, text := range lists {
		var list []int64
		for _, r := range text {
			list = append(list, int64(r-'0'))
		}
		p.Hit = append(p.Hit, list)
	}
	last := len(p.Hit) - 1
	p.Hit, p.Miss = p.Hit[:last:last], p.Hit[last]
	return p
}

// textOf returns the text of a valid policy, without asking the program.
func textOf(p impl.Policy) string {
	text := fmt.Sprint(p.Hit, "|", p.Miss)
	return strings.NewReplacer("] [", "/", " ", "", "[", "", "]", "").Replace(text)
}

// knownPolicies are the policies of all functions that return some, for a few seeds.
func knownPolicies() []impl.Policy {
	var known []impl.Policy
	add := func(p impl.Policy, ok bool) {
		if ok {
			known = append(known, p)
		}
	}
	for ways := range int64(impl.MaxWays + 1) {
		add(impl.LruPolicy(ways))
		add(impl.FifoPolicy(ways))
		add(impl.MruPolicy(ways))
		add(impl.TreePolicy(ways))
		add(impl.SeedPolicy(ways, 1))
		add(impl.SeedPolicy(ways, 2026))
	}
	return known
}

// ordersUpTo returns all orders of the numbers from 0 to n - 1.
func ordersUpTo(n int) [][]int64 {
	if n == 0 {
		return [][]int64{nil}
	}
	var all [][]int64
	for _, shorter := range ordersUpTo(n - 1) {
		for at := range n {
			all = append(all, slices.Insert(slices.Clone(shorter), at, int64(n-1)))
		}
	}
	return all
}

// allPolicies are all policies of some ways, of which there should be few.
func allPolicies(ways int) []impl.Policy {
	orders := ordersUpTo(ways)
	choices := listsOf(ways+1, len(orders))
	var all []impl.Policy
	for _, choice := range choices {
		var p impl.Policy
		for _, c := range choice[:ways] {
			p.Hit = append(p.Hit, slices.Clone(orders[c]))
		}
		p.Miss = slices.Clone(orders[choice[ways]])
		all = append(all, p)
	}
	return all
}

// listsOf returns all lists of a length of numbers below some number.
func listsOf(length, below int) [][]int {
	all := [][]int{nil}
	for range length {
		var longer [][]int
		for _, list := range all {
			for n := range below {
				longer = append(longer, append(slices.Clone(list), n))
			}
		}
		all = longer
	}
	return all
}

// seededPolicies are policies that follow from seeds, apart from those that the program makes.
func seededPolicies(ways int, seeds uint64) []impl.Policy {
	orders := ordersUpTo(ways)
	var made []impl.Policy
	for seed := range seeds {
		var p impl.Policy
		for _, choice := range drawn(seed*8+uint64(ways), ways+1, int64(len(orders))) {
			p.Hit = append(p.Hit, slices.Clone(orders[choice]))
		}
		p.Hit, p.Miss = p.Hit[:ways], p.Hit[ways]
		made = append(made, p)
	}
	return made
}

// manyPolicies are policies of all ways.
func manyPolicies() []impl.Policy {
	many := append(knownPolicies(), allPolicies(1)...)
	many = append(many, allPolicies(2)...)
	for ways := 3; ways <= impl.MaxWays; ways++ {
		many = append(many, seededPolicies(ways, 12)...)
	}
	return many
}

// stepOf is the step of a policy as the document tells it.
func stepOf(p impl.Policy, contents []int64, address int64) ([]int64, bool) {
	old := slices.Clone(contents)
	order, hit := p.Miss, false
	for age, n := range old {
		if n == address {
			order, hit = p.Hit[age], true
		}
	}
	if !hit {
		old[len(old)-1] = address
	}
	after := make([]int64, len(old))
	for j, age := range order {
		after[j] = old[age]
	}
	return after, hit
}

// emptyOf returns empty contents of a policy.
func emptyOf(p impl.Policy) []int64 {
	return repeated(-1, len(p.Miss))
}

// runOf returns the hits, what is replaced, and the contents at the end of uses.
func runOf(p impl.Policy, uses []int64) (hits, evicted, end []int64) {
	end = emptyOf(p)
	for _, a := range uses {
		oldest := end[len(end)-1]
		after, hit := stepOf(p, end, a)
		if hit {
			hits, evicted = append(hits, 1), append(evicted, -1)
		} else {
			hits, evicted = append(hits, 0), append(evicted, oldest)
		}
		end = after
	}
	return hits, evicted, end
}

func TestPoliciesLimits(t *testing.T) {
	expect(t, "limits", of(impl.MaxWays, impl.MaxTold), of(6, 4))
}

func TestValidPolicy(t *testing.T) {
	for _, p := range append(manyPolicies(), allPolicies(3)...) {
		expect(t, textOf(p), of(impl.ValidPolicy(p)), of(true))
	}
	var none []int64
	good := policyWithText("01/10|10")
	for _, p := range badPolicies() {
		what := fmt.Sprint(p)
		expect(t, what, of(impl.ValidPolicy(p)), of(false))
		expect(t, what, of(impl.EmptyContents(p)), of(none, false))
		for _, contents := range [][]int64{nil, {1}, {1, 2}, {1, 2, 3}, {-1, -1, -1}, {1, 2, 3, 4}, countedUp(7)} {
			expect(t, what, of(impl.ValidContents(p, contents)), of(false))
			expect(t, what, of(impl.StepPolicy(p, contents, 1)), of(none, false, false))
		}
		for _, uses := range [][]int64{nil, {1, 2, 1}} {
			expect(t, what, of(impl.RunPolicy(p, uses)), of(none, none, false))
			expect(t, what, of(impl.MissesOf(p, uses)), of(0, false))
			expect(t, what, of(impl.EvictedBy(p, uses)), of(none, false))
		}
		expect(t, what, of(impl.TellingUses(p, good)), of(none, false))
		expect(t, what, of(impl.TellingUses(good, p)), of(none, false))
		expect(t, what, of(impl.ForgetAfter(p)), of(0, false))
		expect(t, what, of(impl.PolicyText(p)), of("", false))
	}
}

// TestKnownTexts: what the policies are, written down from the document.
func TestKnownTexts(t *testing.T) {
	text := func(p impl.Policy, ok bool) string {
		s, is := impl.PolicyText(p)
		if ok != is {
			return "not as one"
		}
		return s
	}
	lru := []string{"", "0|0", "01/10|10", "012/102/201|201", "0123/1023/2013/3012|3012", "01234/10234/20134/30124/40123|40123", "012345/102345/201345/301245/401235/501234|501234", ""}
	fifo := []string{"", "0|0", "01/01|10", "012/012/012|201", "0123/0123/0123/0123|3012", "01234/01234/01234/01234/01234|40123", "012345/012345/012345/012345/012345/012345|501234", ""}
	mru := []string{"", "0|0", "10/01|01", "120/021/012|012", "1230/0231/0132/0123|0123", "12340/02341/01342/01243/01234|01234", "123450/023451/013452/012453/012354/012345|012345", ""}
	tree := []string{"", "", "01/10|10", "", "0123/1023/2301/3201|3201", "", "", ""}
	for ways := range int64(8) {
		expect(t, fmt.Sprint("LruPolicy ", ways), of(text(impl.LruPolicy(ways))), of(lru[ways]))
		expect(t, fmt.Sprint("FifoPolicy ", ways), of(text(impl.FifoPolicy(ways))), of(fifo[ways]))
		expect(t, fmt.Sprint("MruPolicy ", ways), of(text(impl.MruPolicy(ways))), of(mru[ways]))
		expect(t, fmt.Sprint("TreePolicy ", ways), of(text(impl.TreePolicy(ways))), of(tree[ways]))
	}
	for _, ways := range []int64{math.MinInt64, -2, -1, 0, 7, 8, 1 << 32, 1<<32 + 2, math.MaxInt64} {
		expect(t, fmt.Sprint("LruPolicy ", ways), of(impl.LruPolicy(ways)), of(impl.Policy{}, false))
		expect(t, fmt.Sprint("FifoPolicy ", ways), of(impl.FifoPolicy(ways)), of(impl.Policy{}, false))
		expect(t, fmt.Sprint("MruPolicy ", ways), of(impl.MruPolicy(ways)), of(impl.Policy{}, false))
		expect(t, fmt.Sprint("TreePolicy ", ways), of(impl.TreePolicy(ways)), of(impl.Policy{}, false))
		expect(t, fmt.Sprint("SeedPolicy ", ways), of(impl.SeedPolicy(ways, 1)), of(impl.Policy{}, false))
	}
	for _, ways := range []int64{1, 3, 5, 6} {
		expect(t, fmt.Sprint("TreePolicy ", ways), of(impl.TreePolicy(ways)), of(impl.Policy{}, false))
	}
}

// TestSeedPolicy: the orders are drawn one behind the other from one chain of seeds.
func TestSeedPolicy(t *testing.T) {
	for ways := int64(1); ways <= impl.MaxWays; ways++ {
		for _, first := range []int64{1, 2, 3, 48271, 1000003, 2026111900, impl.SeedBase - 1} {
			seed := first
			var orders [][]int64
			for range ways + 1 {
				order := countedUp(int(ways))
				for i := ways - 1; i >= 1; i-- {
					seed, _ = impl.NextSeed(seed)
					j := seed % (i + 1)
					order[i], order[j] = order[j], order[i]
				}
				orders = append(orders, order)
			}
			expect(t, fmt.Sprint(ways, first), of(impl.SeedPolicy(ways, first)), of(impl.Policy{Hit: orders[:ways], Miss: orders[ways]}, true))
			whole, _ := impl.SeedOrder(first, ways)
			expect(t, fmt.Sprint(ways, first, " first order"), of(orders[0]), of(whole))
		}
	}
	for _, seed := range []int64{math.MinInt64, -1, 0, impl.SeedBase, impl.SeedBase + 1, math.MaxInt64} {
		expect(t, fmt.Sprint("seed ", seed), of(impl.SeedPolicy(1, seed)), of(impl.Policy{}, false))
		expect(t, fmt.Sprint("seed ", seed), of(impl.SeedPolicy(4, seed)), of(impl.Policy{}, false))
	}
}

func TestContents(t *testing.T) {
	for _, p := range manyPolicies() {
		empty, ok := impl.EmptyContents(p)
		expect(t, textOf(p), of(empty, ok, impl.ValidContents(p, empty)), of(emptyOf(p), true, true))
		expect(t, textOf(p), of(impl.ValidContents(p, append(empty, -1))), of(false))
		expect(t, textOf(p), of(impl.ValidContents(p, empty[1:])), of(false))
		expect(t, textOf(p), of(impl.ValidContents(p, countedUp(len(p.Miss)))), of(true))
		expect(t, textOf(p), of(impl.ValidContents(p, countedUp(len(p.Miss)+1))), of(false))
	}
	p := policyWithText("012/120/201|210")
	good := [][]int64{{-1, -1, -1}, {0, 1, 2}, {63, -1, 0}, {-1, -1, 63}, {-1, 5, -1}, {5, -1, -1}, {63, 62, 61}}
	bad := [][]int64{nil, {}, {1}, {1, 2}, {-1, -1}, {1, 2, 3, 4}, repeated(-1, 4), {1, 2, 64}, {64, 1, 2}, {1, -2, 2}, {-2, -1, -1}, {1, 1, 2}, {1, 2, 1}, {2, 1, 1}, {0, -1, 0}, {1, math.MinInt64, 2}, {math.MaxInt64, 1, 2}}
	for _, contents := range good {
		expect(t, fmt.Sprint(contents), of(impl.ValidContents(p, contents)), of(true))
		for _, a := range []int64{math.MinInt64, -2, -1, 64, 65, math.MaxInt64} {
			expect(t, fmt.Sprint(contents, a), of(impl.StepPolicy(p, contents, a)), of([]int64(nil), false, false))
		}
	}
	for _, contents := range bad {
		expect(t, fmt.Sprint(contents), of(impl.ValidContents(p, contents)), of(false))
		expect(t, fmt.Sprint(contents), of(impl.StepPolicy(p, contents, 1)), of([]int64(nil), false, false))
		expect(t, fmt.Sprint(contents), of(impl.StepPolicy(p, contents, 7)), of([]int64(nil), false, false))
	}
}

// allContents returns contents of some ways: full ones, empty ones, and all choices of ways that are empty.
func allContents(ways int) [][]int64 {
	var all [][]int64
	for empty := range 1 << ways {
		contents := []int64{0, 63, 7, 31, 5, 62}[:ways:ways]
		contents = slices.Clone(contents)
		for age := range ways {
			if empty>>age&1 == 1 {
				contents[age] = -1
			}
		}
		all = append(all, contents)
	}
	return all
}

// TestStepPolicy: each step is as the lists of the policy tell.
func TestStepPolicy(t *testing.T) {
	p := policyWithText("012/120/201|210")
	expect(t, "hit at 0", of(impl.StepPolicy(p, []int64{7, 8, 9}, 7)), of([]int64{7, 8, 9}, true, true))
	expect(t, "hit at 1", of(impl.StepPolicy(p, []int64{7, 8, 9}, 8)), of([]int64{8, 9, 7}, true, true))
	expect(t, "hit at 2", of(impl.StepPolicy(p, []int64{7, 8, 9}, 9)), of([]int64{9, 7, 8}, true, true))
	expect(t, "miss", of(impl.StepPolicy(p, []int64{7, 8, 9}, 0)), of([]int64{0, 8, 7}, false, true))
	expect(t, "empty oldest", of(impl.StepPolicy(p, []int64{7, 8, -1}, 9)), of([]int64{9, 8, 7}, false, true))
	expect(t, "empty others", of(impl.StepPolicy(p, []int64{-1, -1, 9}, 7)), of([]int64{7, -1, -1}, false, true))
	expect(t, "hit beside empty ones", of(impl.StepPolicy(p, []int64{-1, 8, -1}, 8)), of([]int64{8, -1, -1}, true, true))
	for _, p := range append(manyPolicies(), allPolicies(3)...) {
		for _, contents := range allContents(len(p.Miss)) {
			for _, a := range []int64{0, 63, 7, 31, 5, 62, 8} {
				after, hit := stepOf(p, contents, a)
				expect(t, fmt.Sprint(textOf(p), contents, a), of(impl.StepPolicy(p, contents, a)), of(after, hit, true))
			}
		}
	}
}

// TestRuns: a run is the steps one after another, from empty contents on.
func TestRuns(t *testing.T) {
	lists := [][]int64{nil, {63}, {0, 1, 0, 2, 0}, {7, 5, 7, 7, 2, 5}, repeated(63, impl.MaxTrace)}
	for seed := range uint64(6) {
		lists = append(lists, drawn(seed, impl.MaxTrace, int64(2+seed)), drawn(seed+50, 25, int64(3+2*seed)), drawn(seed+90, impl.MaxTrace, impl.MaxAddress))
	}
	for _, p := range manyPolicies() {
		for _, uses := range lists {
			what := fmt.Sprint(textOf(p), uses)
			hits, evicted, end := runOf(p, uses)
			expect(t, what, of(impl.RunPolicy(p, uses)), of(hits, end, true))
			expect(t, what, of(impl.MissesOf(p, uses)), of(len(uses)-countOnes(hits), true))
			expect(t, what, of(impl.EvictedBy(p, uses)), of(evicted, true))
		}
		for _, uses := range badUses() {
			what := fmt.Sprint(textOf(p), uses)
			expect(t, what, of(impl.RunPolicy(p, uses)), of([]int64(nil), []int64(nil), false))
			expect(t, what, of(impl.MissesOf(p, uses)), of(0, false))
			expect(t, what, of(impl.EvictedBy(p, uses)), of([]int64(nil), false))
		}
	}
}

// TestEmptyWays: a miss replaces what is at the oldest age, even if only other ages are empty.
func TestEmptyWays(t *testing.T) {
	mru, _ := impl.MruPolicy(3)
	expect(t, "never fills", of(impl.RunPolicy(mru, []int64{4, 4, 5, 4, 0})), of([]int64{0, 1, 0, 0, 0}, []int64{-1, -1, 0}, true))
	expect(t, "never fills", of(impl.EvictedBy(mru, []int64{4, 4, 5, 4, 0})), of([]int64{-1, -1, 4, 5, 4}, true))
	back := policyWithText("10/01|10")
	expect(t, "fills at last", of(impl.RunPolicy(back, []int64{4, 4, 5, 6})), of([]int64{0, 1, 0, 0}, []int64{6, 5}, true))
	expect(t, "fills at last", of(impl.EvictedBy(back, []int64{4, 4, 5, 6})), of([]int64{-1, -1, 4, -1}, true))
	expect(t, "no uses", of(impl.RunPolicy(back, nil)), of([]int64{}, []int64{-1, -1}, true))
	expect(t, "no uses", of(impl.MissesOf(back, nil)), of(0, true))
	expect(t, "no uses", of(impl.EvictedBy(back, nil)), of([]int64{}, true))
}

// padded returns the list with empty ways behind it.
func padded(list []int64, ways int) []int64 {
	return append(slices.Clone(list), repeated(-1, ways-len(list))...)
}

// TestLruKeeps: the contents are the addresses that have been used last, the latest one first.
func TestLruKeeps(t *testing.T) {
	for _, uses := range manyUses() {
		for ways := 1; ways <= impl.MaxWays; ways++ {
			p, _ := impl.LruPolicy(int64(ways))
			var recent []int64
			for _, a := range uses {
				recent = slices.DeleteFunc(recent, func(b int64) bool { return b == a })
				recent = slices.Insert(recent, 0, a)
			}
			_, end, ok := impl.RunPolicy(p, uses)
			expect(t, fmt.Sprint(uses, ways), of(end, ok), of(padded(recent[:min(ways, len(recent))], ways), true))
		}
	}
}

// TestFifoKeeps: the contents are the addresses that have come last, the latest one first.
func TestFifoKeeps(t *testing.T) {
	for _, uses := range manyUses() {
		for ways := 1; ways <= impl.MaxWays; ways++ {
			p, _ := impl.FifoPolicy(int64(ways))
			var come []int64
			misses := 0
			for _, a := range uses {
				if !slices.Contains(come, a) {
					come = slices.Insert(come, 0, a)
					come = come[:min(ways, len(come))]
					misses++
				}
			}
			_, end, ok := impl.RunPolicy(p, uses)
			expect(t, fmt.Sprint(uses, ways), of(end, ok), of(padded(come, ways), true))
			expect(t, fmt.Sprint(uses, ways), of(impl.MissesOf(p, uses)), of(misses, true))
		}
	}
}

// TestMruKeeps: from full contents on, what is replaced is the address that has been used last.
func TestMruKeeps(t *testing.T) {
	for _, uses := range manyUses() {
		for ways := 1; ways <= impl.MaxWays; ways++ {
			p, _ := impl.MruPolicy(int64(ways))
			contents := []int64{0, 63, 7, 31, 5, 62}[:ways]
			held, last := slices.Clone(contents), contents[ways-1]
			for _, a := range uses {
				if at := slices.Index(held, a); at < 0 {
					held[slices.Index(held, last)] = a
				}
				last = a
				contents, _, _ = impl.StepPolicy(p, contents, a)
				expect(t, fmt.Sprint(uses, ways), of(contents[ways-1], sortedSet(contents)), of(last, sortedSet(held)))
			}
		}
	}
}

// treeMemory is a memory of 4 places with a tree of 3 bits: each one tells in which half the next replaced place is.
type treeMemory struct {
	places [4]int64
	root   int
	half   [2]int
}

// use uses an address, and reports whether it was a hit.
func (m *treeMemory) use(a int64) bool {
	at := slices.Index(m.places[:], a)
	hit := at >= 0
	if !hit {
		at = 2*m.root + m.half[m.root]
		m.places[at] = a
	}
	m.root = 1 - at/2
	m.half[at/2] = 1 - at%2
	return hit
}

func TestTreeKeeps(t *testing.T) {
	p, _ := impl.TreePolicy(4)
	for _, uses := range manyUses() {
		m := treeMemory{places: [4]int64{-1, -1, -1, -1}}
		var want []int64
		for _, a := range uses {
			if m.use(a) {
				want = append(want, 1)
			} else {
				want = append(want, 0)
			}
		}
		hits, end, ok := impl.RunPolicy(p, uses)
		slices.Sort(end)
		slices.Sort(m.places[:])
		expect(t, fmt.Sprint(uses), of(hits, end, ok), of(want, m.places, true))
	}
}

// smallNames returns the lists with their addresses, beginning with 0, in the order of their first uses, of a length.
func smallNames(length int) [][]int64 {
	all := [][]int64{nil}
	for range length {
		var longer [][]int64
		for _, list := range all {
			for n := range int64(countDifferent(list) + 1) {
				longer = append(longer, append(slices.Clone(list), n))
			}
		}
		all = longer
	}
	return all
}

// firstTelling returns the first of all uses of at most a length that tell two policies.
func firstTelling(p, q impl.Policy, names [][][]int64) ([]int64, bool) {
	for _, lists := range names {
		for _, uses := range lists {
			a, _, _ := runOf(p, uses)
			b, _, _ := runOf(q, uses)
			if !slices.Equal(a, b) {
				return uses, true
			}
		}
	}
	return nil, false
}

// bothTexts returns a text of two contents in which the addresses have the names of their first places.
func bothTexts(a, b []int64) string {
	both := slices.Concat(a, b)
	text := ""
	for _, n := range both {
		if n == -1 {
			text += " -"
		} else {
			text += fmt.Sprint(" ", slices.Index(both, n))
		}
	}
	return text
}

// neverTold reports whether two policies do the same in all contents that they can reach together.
func neverTold(p, q impl.Policy) bool {
	seen := map[string]bool{}
	var visit func(a, b []int64) bool
	visit = func(a, b []int64) bool {
		text := bothTexts(a, b)
		if seen[text] {
			return true
		}
		seen[text] = true
		for n := range int64(len(a) + len(b) + 1) {
			nextA, hitA := stepOf(p, a, n)
			nextB, hitB := stepOf(q, b, n)
			if hitA != hitB || !visit(nextA, nextB) {
				return false
			}
		}
		return true
	}
	return visit(emptyOf(p), emptyOf(q))
}

// expectTelling fails the test unless TellingUses is right for two policies.
func expectTelling(t *testing.T, p, q impl.Policy, names [][][]int64) {
	t.Helper()
	what := textOf(p) + " and " + textOf(q)
	uses, ok := impl.TellingUses(p, q)
	if want, told := firstTelling(p, q, names); told {
		expect(t, what, of(uses, ok), of(want, true))
	} else if ok && len(uses) < len(names) {
		t.Errorf("%s: got %v, which do not tell them", what, uses)
	}
	if ok == neverTold(p, q) {
		t.Errorf("%s: got %v, %v", what, uses, ok)
	}
	if !ok {
		expect(t, what, of(uses), of([]int64(nil)))
		return
	}
	a, _, _ := runOf(p, uses)
	b, _, _ := runOf(q, uses)
	last := len(uses) - 1
	if !slices.Equal(a[:last], b[:last]) || a[last] == b[last] {
		t.Errorf("%s: got %v, with the hits %v and %v", what, uses, a, b)
	}
}

// namesUpTo returns smallNames of all lengths up to one.
func namesUpTo(length int) [][][]int64 {
	var names [][][]int64
	for n := range length + 1 {
		names = append(names, smallNames(n))
	}
	return names
}

func TestTellingUses(t *testing.T) {
	names := namesUpTo(8)
	var few []impl.Policy
	for _, p := range append(knownPolicies(), append(allPolicies(1), allPolicies(2)...)...) {
		if len(p.Miss) <= impl.MaxTold {
			few = append(few, p)
		}
	}
	few = append(few, append(seededPolicies(3, 6), seededPolicies(4, 6)...)...)
	for _, p := range few {
		for _, q := range few {
			expectTelling(t, p, q, names)
		}
	}
}

// TestTellingLate: policies that the first uses do not tell, as they differ only after rare hits.
func TestTellingLate(t *testing.T) {
	pairs := [][3]string{
		{"0213/3201/2013/0132|0123", "0213/2301/2013/0132|0123", "00011021231"},
		{"0213/1203/1023/2301|0123", "0213/1203/2013/2301|0123", "000110012230"},
		{"1203/1023/0123/0321|0123", "1203/1023/2103/0321|0123", "000001102231"},
		{"0123/2013/2103/0321|0123", "2103/2013/2103/0321|0123", "000001112230"},
		{"3120/3201/3012/2130|2103", "3120/3021/3012/2130|2103", "001100012210"},
	}
	names := namesUpTo(9)
	for _, pair := range pairs {
		var uses []int64
		for _, r := range pair[2] {
			uses = append(uses, int64(r-'0'))
		}
		p, q := policyWithText(pair[0]), policyWithText(pair[1])
		expect(t, fmt.Sprint(pair), of(impl.TellingUses(p, q)), of(uses, true))
		expect(t, fmt.Sprint(pair), of(impl.TellingUses(q, p)), of(uses, true))
		expectTelling(t, p, q, names)
	}
}

func TestTellingNone(t *testing.T) {
	var none []int64
	lru, _ := impl.LruPolicy(2)
	fifo, _ := impl.FifoPolicy(2)
	tree, _ := impl.TreePolicy(2)
	expect(t, "example", of(impl.TellingUses(lru, fifo)), of([]int64{0, 1, 0, 2, 0}, true))
	expect(t, "the same", of(impl.TellingUses(lru, tree)), of(none, false))
	for a := int64(1); a <= impl.MaxTold; a++ {
		p, _ := impl.MruPolicy(a)
		for b := int64(1); b <= impl.MaxTold; b++ {
			q, _ := impl.MruPolicy(b)
			expect(t, fmt.Sprint("one place of ", a, b), of(impl.TellingUses(p, q)), of(none, false))
		}
	}
	for ways := int64(1); ways <= impl.MaxWays; ways++ {
		lru, _ := impl.LruPolicy(ways)
		expect(t, fmt.Sprint("itself ", ways), of(impl.TellingUses(lru, lru)), of(none, false))
	}
	four, _ := impl.LruPolicy(4)
	for ways := int64(5); ways <= impl.MaxWays; ways++ {
		lru, _ := impl.LruPolicy(ways)
		fifo, _ := impl.FifoPolicy(ways)
		expect(t, fmt.Sprint("too many ", ways), of(impl.TellingUses(lru, fifo)), of(none, false))
		expect(t, fmt.Sprint("too many first ", ways), of(impl.TellingUses(lru, four)), of(none, false))
		expect(t, fmt.Sprint("too many second ", ways), of(impl.TellingUses(four, fifo)), of(none, false))
	}
	three, _ := impl.LruPolicy(3)
	expect(t, "4 ways", of(impl.TellingUses(four, three)), of([]int64{0, 1, 2, 3, 0}, true))
}

// longestKept returns how many different addresses can be used until all that stand in the contents have been used, for
// full contents, and fails if these may be any number. Used addresses stand as empty ways in the contents.
func longestKept(p impl.Policy) (int64, bool) {
	longest := map[string]int64{}
	var visit func(contents []int64) int64
	visit = func(contents []int64) int64 {
		text := fmt.Sprint(contents)
		if n, known := longest[text]; known {
			return n
		}
		if slices.Max(contents) == -1 {
			return 0
		}
		longest[text] = math.MinInt32
		most := int64(0)
		for _, a := range append(slices.Clone(contents), 63) {
			if a == -1 {
				continue
			}
			after, _, _ := impl.StepPolicy(p, contents, a)
			after[slices.Index(after, a)] = -1
			n := visit(after)
			if n < 0 {
				return math.MinInt32
			}
			most = max(most, n+1)
		}
		longest[text] = most
		return most
	}
	n := visit(countedUp(len(p.Miss)))
	if n < 0 {
		return 0, false
	}
	return n, true
}

func TestForgetAfter(t *testing.T) {
	for ways := int64(1); ways <= impl.MaxWays; ways++ {
		lru, _ := impl.LruPolicy(ways)
		fifo, _ := impl.FifoPolicy(ways)
		mru, _ := impl.MruPolicy(ways)
		expect(t, fmt.Sprint("LruPolicy ", ways), of(impl.ForgetAfter(lru)), of(ways, true))
		expect(t, fmt.Sprint("FifoPolicy ", ways), of(impl.ForgetAfter(fifo)), of(2*ways-1, true))
		if ways == 1 {
			expect(t, "MruPolicy 1", of(impl.ForgetAfter(mru)), of(1, true))
		} else {
			expect(t, fmt.Sprint("MruPolicy ", ways), of(impl.ForgetAfter(mru)), of(0, false))
		}
	}
	two, _ := impl.TreePolicy(2)
	four, _ := impl.TreePolicy(4)
	expect(t, "TreePolicy 2", of(impl.ForgetAfter(two)), of(2, true))
	expect(t, "TreePolicy 4", of(impl.ForgetAfter(four)), of(5, true))
	forgetting := 0
	all := append(manyPolicies(), allPolicies(3)...)
	for ways := 4; ways <= impl.MaxWays; ways++ {
		all = append(all, seededPolicies(ways, 200)...)
		// Only policies whose misses move all ages round forget, which drawn orders seldom do.
		for _, p := range seededPolicies(ways, 200) {
			p.Miss = append([]int64{int64(ways - 1)}, countedUp(ways-1)...)
			all = append(all, p)
		}
	}
	for _, p := range all {
		n, ok := longestKept(p)
		expect(t, textOf(p), of(impl.ForgetAfter(p)), of(n, ok))
		if ok {
			forgetting++
		}
	}
	if forgetting < 100 || forgetting > len(all)-100 {
		t.Errorf("%d of %d policies forget", forgetting, len(all))
	}
}

// TestPolicyTexts: a policy is read from its text, which has the form that the document tells.
func TestPolicyTexts(t *testing.T) {
	expect(t, "6 ways", of(impl.PolicyText(equalLists(6))), of("012345/012345/012345/012345/012345/012345|012345", true))
	for _, p := range append(manyPolicies(), allPolicies(3)...) {
		expect(t, textOf(p), of(impl.PolicyText(p)), of(textOf(p), true))
		expect(t, textOf(p), of(impl.ReadPolicy(textOf(p))), of(p, true))
	}
}

// isPolicyText reports whether a text is one of a policy, by looking at its parts.
func isPolicyText(s string) bool {
	halves := strings.Split(s, "|")
	if len(halves) != 2 {
		return false
	}
	ways := len(halves[1])
	lists := append(strings.Split(halves[0], "/"), halves[1])
	if ways < 1 || ways > 6 || len(lists) != ways+1 {
		return false
	}
	for _, list := range lists {
		for age := range ways {
			if strings.Count(list, string(rune('0'+age))) != 1 || len(list) != ways {
				return false
			}
		}
	}
	return true
}

func TestReadPolicy(t *testing.T) {
	near := []string{"", "|", "/", "/|", "|/", "0", "0|", "|0", "0|1", "1|0", "1|1", "0/0|0", "0/0", "0||0", "0|0|", "|0|0", "0|0|0", "0|0/0", "0/|0", "/0|0", "00|0", "0|00", "00|00", "01/10", "01/10|", "01/10|1", "01/10|11", "01/10|02", "01/10|10|", "01/10|10/", "01/10||10", "01//10|10",
		"/01/10|10", "01/10/|10", "01|10|10", "01/10/10", "01/11|10", "01/1|10", "01/|10", "0110|10", "01/10/01|10", "01/10|10 ", " 01/10|10", "01/10 |10", "01/10| 10", "01/10|1 0", "01 10|10", "01/10|10\n", "01/1x|10", "01/10|1\x00", "01/10|1/", "01/-1|10", "12/21|21", "02/20|20", "012/120/201|21", "012/120/201|2100", "012/120|210", "\xff|\xff", "0\\0",
		"policy 0|0", "none", "01/10|\xd9\xa1\xd9\xa0", "0123456/0123456/0123456/0123456/0123456/0123456/0123456|0123456", "012345/012345/012345/012345/012345/012345/012345|012345", "012345/012345/012345/012345/012345/012346|012345", "012345/012345/012345/012345/012345/012345|012344", "012345/012345/012345/012345/012345|012345"}
	for _, s := range near {
		if isPolicyText(s) {
			t.Fatalf("%q is in the wrong list", s)
		}
		expect(t, s, of(impl.ReadPolicy(s)), of(impl.Policy{}, false))
	}
	for _, p := range knownPolicies() {
		text := textOf(p)
		for at := range len(text) {
			for _, b := range []byte("0123456|/ -\x00") {
				changed, longer, shorter := text[:at]+string(b)+text[at+1:], text[:at]+string(b)+text[at:], text[:at]+text[at+1:]
				for _, s := range []string{changed, longer, shorter} {
					if isPolicyText(s) {
						expect(t, s, of(impl.ReadPolicy(s)), of(policyWithText(s), true))
					} else {
						expect(t, s, of(impl.ReadPolicy(s)), of(impl.Policy{}, false))
					}
				}
			}
		}
	}
	for _, bytes := range listsUpTo(8, '0', '1', '/', '|') {
		s := ""
		for _, b := range bytes {
			s += string(rune(b))
		}
		if _, ok := impl.ReadPolicy(s); ok != isPolicyText(s) {
			t.Fatalf("%q: got %v", s, ok)
		}
	}
}
