package tests

// Promise 1 for chapter 3: totality, purity, and zero values beside a failure.

import (
	"math"
	"strings"
	"testing"

	"loop.example/g01112/impl"
)

// badPolicies are policies that are not valid, each for one reason.
func badPolicies() []impl.Policy {
	bad := []impl.Policy{{}, {Hit: [][]int64{}, Miss: []int64{}}, {Hit: [][]int64{{}}, Miss: []int64{}}, {Hit: [][]int64{nil}}, {Miss: []int64{0}}, {Hit: [][]int64{{0}}},
		{Hit: [][]int64{{0}}, Miss: []int64{1}}, {Hit: [][]int64{{1}}, Miss: []int64{0}}, {Hit: [][]int64{{0}, {0}}, Miss: []int64{0}}, {Hit: [][]int64{{0, 1}}, Miss: []int64{0}}}
	change := func(change func(p *impl.Policy)) {
		p := policyWithText("012/120/201|210")
		change(&p)
		bad = append(bad, p)
	}
	change(func(p *impl.Policy) { p.Hit = p.Hit[:2] })
	change(func(p *impl.Policy) { p.Hit = append(p.Hit, []int64{0, 1, 2}) })
	change(func(p *impl.Policy) { p.Hit = nil })
	change(func(p *impl.Policy) { p.Miss = p.Miss[:2] })
	change(func(p *impl.Policy) { p.Miss = []int64{1, 0} })
	change(func(p *impl.Policy) { p.Miss = []int64{0, 1, 2, 3} })
	change(func(p *impl.Policy) { p.Miss = nil })
	for i := range 3 {
		change(func(p *impl.Policy) { p.Hit[i] = []int64{0, 1} })
		change(func(p *impl.Policy) { p.Hit[i] = []int64{0, 1, 2, 3} })
		change(func(p *impl.Policy) { p.Hit[i] = nil })
		change(func(p *impl.Policy) { p.Hit[i][2] = p.Hit[i][0] })
		change(func(p *impl.Policy) { p.Miss[i] = p.Miss[(i+1)%3] })
		for _, age := range []int64{math.MinInt64, -1, 3, 4, 6, 1 << 32, math.MaxInt64} {
			change(func(p *impl.Policy) { p.Hit[i][i] = age })
			change(func(p *impl.Policy) { p.Miss[i] = age })
		}
	}
	return append(bad, equalLists(7), equalLists(8), equalLists(70))
}

// equalLists returns the policy with some ways that never moves a number, also with too many ways.
func equalLists(ways int) impl.Policy {
	p := impl.Policy{}
	for range ways {
		p.Hit = append(p.Hit, countedUp(ways))
	}
	p.Miss = countedUp(ways)
	return p
}

// countedUp returns the numbers from 0 on.
func countedUp(n int) []int64 {
	var list []int64
	for i := range n {
		list = append(list, int64(i))
	}
	return list
}

// oddPolicies are policies that are valid or nearly are.
func oddPolicies() []impl.Policy {
	return append(badPolicies(), append(knownPolicies(), policyWithText("012/120/201|210"), equalLists(1), equalLists(6))...)
}

// fewPolicies are some of oddPolicies, for calls with many other arguments.
func fewPolicies() []impl.Policy {
	var few []impl.Policy
	for i, p := range oddPolicies() {
		if i%4 == 0 {
			few = append(few, p)
		}
	}
	return append(few, equalLists(1), equalLists(2))
}

// oddContents are contents of policies with a few ways, or nearly are.
func oddContents() [][]int64 {
	return [][]int64{nil, {}, {-1}, {0}, {63}, {64}, {-2}, {-1, -1}, {5, 3}, {5, 5}, {-1, 63}, {64, -1}, {0, -2}, {-1, -1, -1}, {1, 2, 3}, {3, 1, 3}, {1, -1, 3},
		{math.MaxInt64, 1, 2}, {1, math.MinInt64, 2}, {1, 2, 3, 4}, repeated(-1, 4), repeated(-1, 6), repeated(-1, 7), countedUp(6), countedUp(7), repeated(-1, 5000)}
}

// oddPolicyTexts are texts of policies and others.
func oddPolicyTexts() []string {
	texts := append(oddTexts(), "0|0", "01/10|10", "01/10|11", "01/10|1", "01/10|", "01|10", "01/10", "|", "||", "/", "/|/", "01//10|10", "01/10||10", "01/10|10|", "/01/10|10", "012345/012345/012345/012345/012345/012345|543210")
	return append(texts, strings.Repeat("0123456/", 6)+"0123456|0123456", strings.Repeat("01/", 3000)+"|10", strings.Repeat("|", 5000), strings.Repeat("0", 3000)+"|"+strings.Repeat("0", 3000))
}

// policyCalls returns calls of every function of chapter 3.
func policyCalls() callList {
	var calls callList
	policies, few := valuesOf(oddPolicies()), valuesOf(fewPolicies())
	uses, counts := valuesOf(oddUses()), valuesOf(append(oddCounts(), 4, 6, 7))
	seeds := valuesOf([]int64{math.MinInt64, -1, 0, 1, 7, impl.SeedBase - 1, impl.SeedBase, math.MaxInt64})
	calls.addAll("ValidPolicy", impl.ValidPolicy, policies)
	calls.addAll("LruPolicy", impl.LruPolicy, counts)
	calls.addAll("FifoPolicy", impl.FifoPolicy, counts)
	calls.addAll("MruPolicy", impl.MruPolicy, counts)
	calls.addAll("TreePolicy", impl.TreePolicy, counts)
	calls.addAll("SeedPolicy", impl.SeedPolicy, counts, seeds)
	calls.addAll("EmptyContents", impl.EmptyContents, policies)
	calls.addAll("ValidContents", impl.ValidContents, policies, valuesOf(oddContents()))
	calls.addAll("StepPolicy", impl.StepPolicy, few, valuesOf(oddContents()), valuesOf([]int64{math.MinInt64, -1, 3, 63, 64}))
	calls.addAll("RunPolicy", impl.RunPolicy, few, uses)
	calls.addAll("MissesOf", impl.MissesOf, few, uses)
	calls.addAll("EvictedBy", impl.EvictedBy, few, uses)
	calls.addAll("ForgetAfter", impl.ForgetAfter, policies)
	calls.addAll("PolicyText", impl.PolicyText, policies)
	calls.addAll("ReadPolicy", impl.ReadPolicy, valuesOf(oddPolicyTexts()))
	calls.addAll("TellingUses", impl.TellingUses, few, few)
	return calls
}

func TestPoliciesConventions(t *testing.T) {
	expectConventions(t, policyCalls())
}
