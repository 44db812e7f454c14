package tests

// Promise 11 (chapter 10), for one line in several caches: the protocols have no flaw, and each broken one has a shortest flaw.

import (
	"fmt"
	"math"
	"slices"
	"strings"
	"testing"

	"loop.example/g01112/impl"
)

// copyLetters are the copies in order.
const copyLetters = "nsod"

// systemFrom returns the system with a word for each cache: the letter of its copy, with a + behind it if the copy is fresh and
// a - otherwise, or n alone. A last word tells whether the memory is fresh.
func systemFrom(s string) impl.System {
	var x impl.System
	words := strings.Fields(s)
	for _, word := range words[:len(words)-1] {
		x.Copies = append(x.Copies, int64(strings.IndexByte(copyLetters, word[0])))
		x.Fresh = append(x.Fresh, strings.HasSuffix(word, "+"))
	}
	x.Memory = words[len(words)-1] == "+"
	return x
}

// opsFrom returns ops with a word for each of them: r, w or e, and the cache.
func opsFrom(s string) []impl.Op {
	var ops []impl.Op
	for _, pair := range lettersAndDigits(s, "rwe") {
		ops = append(ops, impl.Op{Kind: pair[0], Cache: pair[1]})
	}
	return ops
}

// rulesFrom returns the table with a word for each copy: the letter of Next, and ! if there is Back. All Shared are CopyShared.
func rulesFrom(s string) []impl.Rule {
	var rules []impl.Rule
	for _, word := range strings.Fields(s) {
		rules = append(rules, impl.Rule{Next: int64(strings.IndexByte(copyLetters, word[0])), Shared: 1, Back: strings.HasSuffix(word, "!")})
	}
	return rules
}

// protocolFrom returns the protocol with these tables.
func protocolFrom(read, write, evict, seeRead, seeWrite string) impl.Protocol {
	return impl.Protocol{Read: rulesFrom(read), Write: rulesFrom(write), Evict: rulesFrom(evict), SeeRead: rulesFrom(seeRead), SeeWrite: rulesFrom(seeWrite)}
}

// rule returns the rule with a Next that is the copy with this letter.
func rule(letter string, back bool) impl.Rule {
	return impl.Rule{Next: int64(strings.Index(copyLetters, letter)), Shared: 1, Back: back}
}

// toldMsi are the tables of MsiProtocol.
func toldMsi(exclusive bool) impl.Protocol {
	read := "s s o d"
	if exclusive {
		read = "o s o d"
	}
	return protocolFrom(read, "d d d d", "n n n n!", "n s s s!", "n n n n!")
}

// toldThrough are the tables of ThroughProtocol.
func toldThrough(keep bool) impl.Protocol {
	write := "n! s! s! s!"
	if keep {
		write = "s! s! s! s!"
	}
	return protocolFrom("s s s s", write, "n n n n", "n s s s", "n n n n")
}

// knownProtocols are both protocols of each of the two makers.
func knownProtocols() []impl.Protocol {
	return []impl.Protocol{toldMsi(false), toldMsi(true), toldThrough(false), toldThrough(true)}
}

// tableOf returns the table with a number.
func tableOf(p *impl.Protocol, table int) *[]impl.Rule {
	return []*[]impl.Rule{&p.Read, &p.Write, &p.Evict, &p.SeeRead, &p.SeeWrite}[table]
}

// changed returns a copy of a protocol with another rule, which need not be valid.
func changed(p impl.Protocol, table, held int, r impl.Rule) impl.Protocol {
	var c impl.Protocol
	for i := range 5 {
		*tableOf(&c, i) = slices.Clone(*tableOf(&p, i))
	}
	(*tableOf(&c, table))[held] = r
	return c
}

// Numbers of the tables.
const (
	inRead = iota
	inWrite
	inEvict
	inSeeRead
	inSeeWrite
)

// allRules are all rules whose Next and Shared are copies.
func allRules() []impl.Rule {
	var all []impl.Rule
	for n := range int64(16) {
		all = append(all, impl.Rule{Next: n / 4, Shared: n % 4}, impl.Rule{Next: n / 4, Shared: n % 4, Back: true})
	}
	return all
}

// mayBe reports whether the document allows a rule, whose Next and Shared are copies, for a copy in a table.
func mayBe(table, held int, r impl.Rule) bool {
	switch {
	case table == inRead:
		return r.Next != 0 && r.Shared != 0
	case table == inWrite:
		return true
	case held == 0:
		return r.Next == 0 && !r.Back
	case table == inEvict:
		return r.Next == 0
	}
	return true
}

// eachRule calls check with every rule whose Next and Shared are copies, for every copy in every table.
func eachRule(check func(table, held int, r impl.Rule)) {
	for table := range 5 {
		for held := range 4 {
			for _, r := range allRules() {
				check(table, held, r)
			}
		}
	}
}

// brokenProtocols are all valid protocols that have one rule that a known one has not, where Shared means something only for
// CopyNone in Read.
func brokenProtocols() []impl.Protocol {
	var all []impl.Protocol
	for _, p := range knownProtocols() {
		eachRule(func(table, held int, r impl.Rule) {
			if mayBe(table, held, r) && (r.Shared == 1 || table == inRead && held == 0) && (*tableOf(&p, table))[held] != r {
				all = append(all, changed(p, table, held, r))
			}
		})
	}
	return all
}

// drawnProtocol returns a valid protocol that follows from a seed.
func drawnProtocol(seed uint64) impl.Protocol {
	p := knownProtocols()[seed%4]
	rules := allRules()
	for i, n := range drawn(seed, 40, 1<<40) {
		table, held := int(n%5), int(n>>8%4)
		if r := rules[n>>16%32]; mayBe(table, held, r) && uint64(i) < 2+seed/4%20 {
			p = changed(p, table, held, r)
		}
	}
	return p
}

// drawnProtocols are valid protocols that differ in few or in many rules from known ones.
func drawnProtocols(count uint64) []impl.Protocol {
	var all []impl.Protocol
	for seed := range count {
		all = append(all, drawnProtocol(seed))
	}
	return all
}

// validProtocols are protocols at the edges of what is valid.
func validProtocols() []impl.Protocol {
	return append(knownProtocols(),
		changed(toldMsi(false), inRead, 0, impl.Rule{Next: 3, Shared: 3, Back: true}),
		changed(toldMsi(false), inRead, 3, impl.Rule{Next: 1, Shared: 1, Back: true}),
		changed(toldMsi(false), inWrite, 0, impl.Rule{}),
		changed(toldMsi(false), inWrite, 3, impl.Rule{Next: 3, Shared: 3, Back: true}),
		changed(toldMsi(false), inEvict, 0, impl.Rule{}),
		changed(toldMsi(false), inEvict, 0, impl.Rule{Shared: 3}),
		changed(toldMsi(false), inEvict, 1, impl.Rule{Back: true}),
		changed(toldMsi(false), inSeeRead, 0, impl.Rule{Shared: 3}),
		changed(toldMsi(false), inSeeRead, 3, impl.Rule{Next: 3}),
		changed(toldMsi(false), inSeeWrite, 0, impl.Rule{}),
		changed(toldMsi(false), inSeeWrite, 1, impl.Rule{Next: 2, Back: true}))
}

// badProtocols are protocols that are not valid, one for each way in which a valid one can be spoilt.
func badProtocols() []impl.Protocol {
	var bad []impl.Protocol
	far := []int64{-1, 4, -2, 5, 1 << 32, 1<<32 + 1, math.MinInt64, math.MaxInt64}
	for table := range 5 {
		for _, rules := range [][]impl.Rule{nil, {}, rulesFrom("n n n"), rulesFrom("s s s"), rulesFrom("s"), rulesFrom("n n n n n"), rulesFrom("s s s s s")} {
			p := toldMsi(true)
			*tableOf(&p, table) = rules
			bad = append(bad, p)
		}
		for held := range 4 {
			p := toldThrough(false)
			for _, n := range far {
				wrongNext, wrongShared := (*tableOf(&p, table))[held], (*tableOf(&p, table))[held]
				wrongNext.Next, wrongShared.Shared = n, n
				bad = append(bad, changed(p, table, held, wrongNext), changed(p, table, held, wrongShared))
			}
		}
	}
	for _, table := range []int{inEvict, inSeeRead, inSeeWrite} {
		for _, r := range []impl.Rule{{Next: 1, Shared: 1}, {Next: 3}, {Back: true}, {Shared: 1, Back: true}, {Next: 2, Back: true}} {
			bad = append(bad, changed(toldMsi(false), table, 0, r))
		}
	}
	for held := range 4 {
		bad = append(bad, changed(toldMsi(false), inRead, held, impl.Rule{Shared: 1}), changed(toldMsi(false), inRead, held, impl.Rule{Next: 1}), changed(toldThrough(true), inRead, held, impl.Rule{}))
		for next := int64(1); next < 4; next++ {
			bad = append(bad, changed(toldMsi(true), inEvict, held, impl.Rule{Next: next, Shared: 1}))
		}
	}
	return append(bad, impl.Protocol{}, impl.Protocol{Read: make([]impl.Rule, 4), Write: make([]impl.Rule, 4), Evict: make([]impl.Rule, 4), SeeRead: make([]impl.Rule, 4), SeeWrite: make([]impl.Rule, 4)})
}

// allSystems are all valid systems with some number of caches.
func allSystems(caches int) []impl.System {
	words := []string{"n", "s-", "s+", "o-", "o+", "d-", "d+"}
	texts := []string{""}
	for range caches {
		var longer []string
		for _, text := range texts {
			for _, word := range words {
				longer = append(longer, text+word+" ")
			}
		}
		texts = longer
	}
	var all []impl.System
	for _, text := range texts {
		all = append(all, systemFrom(text+"-"), systemFrom(text+"+"))
	}
	return all
}

// badSystems are systems that are not valid.
func badSystems() []impl.System {
	bad := []impl.System{{}, {Memory: true}, {Copies: []int64{}, Fresh: []bool{}, Memory: true}, {Copies: nil, Fresh: []bool{false}}, {Copies: []int64{0}}, {Copies: []int64{1}, Fresh: []bool{}, Memory: true}}
	bad = append(bad, systemFrom("n n n n +"), systemFrom("s+ s+ s+ s+ +"), systemFrom("n n n n n n n -"))
	bad = append(bad, impl.System{Copies: []int64{1, 1}, Fresh: []bool{true}}, impl.System{Copies: []int64{1}, Fresh: []bool{true, false}}, impl.System{Copies: []int64{1, 2, 0}, Fresh: []bool{true, false, false, false}}, impl.System{Copies: []int64{0, 0, 0}, Fresh: []bool{false, false}})
	for _, n := range []int64{-1, 4, -2, 5, 1 << 32, 1<<32 + 1, math.MinInt64, math.MaxInt64} {
		for cache := range 3 {
			x := systemFrom("s+ o- d- +")
			x.Copies[cache] = n
			bad = append(bad, x)
		}
		bad = append(bad, impl.System{Copies: []int64{n}, Fresh: []bool{false}, Memory: true})
	}
	for _, text := range []string{"n+ +", "n+ -", "n+ s+ d- +", "s- n+ +", "s- s+ n+ -"} {
		bad = append(bad, systemFrom(text))
	}
	return bad
}

// badOps are ops of which Kind or Cache is none in so many caches.
func badOps(caches int64) []impl.Op {
	var bad []impl.Op
	for _, n := range []int64{-1, 3, -2, 4, 1 << 32, 1<<32 + 1, math.MinInt64, math.MaxInt64} {
		bad = append(bad, impl.Op{Kind: n}, impl.Op{Kind: n, Cache: caches - 1})
	}
	for _, n := range []int64{-1, caches, -2, caches + 1, 1 << 32, 1<<32 + 1, math.MinInt64, math.MaxInt64} {
		for kind := range int64(3) {
			bad = append(bad, impl.Op{Kind: kind, Cache: n})
		}
	}
	return bad
}

// allOps are the ops of some caches in order.
func allOps(caches int) []impl.Op {
	var all []impl.Op
	for n := range 3 * caches {
		all = append(all, impl.Op{Kind: int64(n / caches), Cache: int64(n % caches)})
	}
	return all
}

// drawnOps returns MaxOps ops of some caches that follow from a seed.
func drawnOps(seed uint64, caches int) []impl.Op {
	var ops []impl.Op
	for _, n := range drawn(seed, impl.MaxOps, int64(3*caches)) {
		ops = append(ops, allOps(caches)[n])
	}
	return ops
}

// toldAfter is what the document tells about an op: the system behind it, whether it is a flaw, whether other caches see it, and
// how often the memory is written.
type toldAfter struct {
	system impl.System
	isFlaw bool
	isSeen bool
	backs  int64
}

// see does what the document tells about the other caches that see an op.
func (m *toldAfter) see(cache int64, table []impl.Rule) {
	m.isSeen = true
	for i, r := range m.system.Copies {
		if int64(i) == cache || r == impl.CopyNone {
			continue
		}
		if table[r].Back {
			m.system.Memory = m.system.Fresh[i]
			m.backs++
		}
		m.system.Copies[i] = table[r].Next
	}
	m.dropNone()
}

// dropNone makes copies that have become CopyNone not fresh.
func (m *toldAfter) dropNone() {
	for i, held := range m.system.Copies {
		if held == impl.CopyNone {
			m.system.Fresh[i] = false
		}
	}
}

// toldOp does what the document tells about an op.
func toldOp(p impl.Protocol, x impl.System, o impl.Op) toldAfter {
	m := toldAfter{system: impl.System{Copies: slices.Clone(x.Copies), Fresh: slices.Clone(x.Fresh), Memory: x.Memory}}
	s, i, q := &m.system, o.Cache, x.Copies[o.Cache]
	readsFresh := true
	switch {
	case o.Kind == impl.OpRead && q != impl.CopyNone:
		readsFresh = x.Fresh[i]
		s.Copies[i] = p.Read[q].Next
	case o.Kind == impl.OpRead:
		m.see(i, p.SeeRead)
		readsFresh = s.Memory
		next := p.Read[q].Next
		for j, held := range s.Copies {
			if int64(j) != i && held != impl.CopyNone {
				next = p.Read[q].Shared
			}
		}
		s.Copies[i], s.Fresh[i] = next, s.Memory
	case o.Kind == impl.OpWrite:
		if q == impl.CopyNone || q == impl.CopyShared {
			m.see(i, p.SeeWrite)
		}
		s.Copies[i] = p.Write[q].Next
		for j := range s.Fresh {
			s.Fresh[j] = int64(j) == i
		}
		s.Memory = p.Write[q].Back
		if s.Memory {
			m.backs++
		}
	case p.Evict[q].Back:
		s.Memory = x.Fresh[i]
		m.backs++
		fallthrough
	default:
		s.Copies[i] = impl.CopyNone
	}
	m.dropNone()
	m.isFlaw = !readsFresh || !s.Memory && !slices.Contains(s.Fresh, true)
	return m
}

// firstSystem returns the system in which no cache has a copy.
func firstSystem(caches int) impl.System {
	return impl.System{Copies: make([]int64, caches), Fresh: make([]bool, caches), Memory: true}
}

// toldOps is what the document tells about a run: the system behind its last op, the index of the flaw, how many ops are seen,
// and how often the memory is written.
type toldOps struct {
	system impl.System
	flaw   int64
	seen   int64
	backs  int64
}

// runOps does what the document tells about a run.
func runOps(p impl.Protocol, caches int, ops []impl.Op) toldOps {
	r := toldOps{system: firstSystem(caches), flaw: -1}
	for i, o := range ops {
		m := toldOp(p, r.system, o)
		r.system = m.system
		r.backs += m.backs
		if m.isSeen {
			r.seen++
		}
		if m.isFlaw {
			r.flaw = int64(i)
			break
		}
	}
	return r
}

// expectRunOps fails the test unless a run and its traffic are as the document tells.
func expectRunOps(t *testing.T, p impl.Protocol, caches int, ops []impl.Op) {
	t.Helper()
	what, told := fmt.Sprint(p, caches, ops), runOps(p, caches, ops)
	expect(t, what, of(impl.RunSystem(p, int64(caches), ops)), of(told.system, told.flaw, true))
	if told.flaw >= 0 {
		expect(t, what, of(impl.BusTraffic(p, int64(caches), ops)), of(0, 0, false))
	} else {
		expect(t, what, of(impl.BusTraffic(p, int64(caches), ops)), of(told.seen, told.backs, true))
	}
}

// lineKey is a system in a form that can be compared.
type lineKey struct {
	copies [3]int64
	fresh  [3]bool
	memory bool
}

// keyOf returns the key of a system.
func keyOf(x impl.System) lineKey {
	k := lineKey{memory: x.Memory}
	copy(k.copies[:], x.Copies)
	copy(k.fresh[:], x.Fresh)
	return k
}

// toldGraph are the systems that are reached without flaws, with what is behind each of their ops, in order.
type toldGraph struct {
	systems []impl.System
	behind  map[lineKey][]toldAfter
}

// graphOf finds what is reached by looking behind all systems that are there, until there are no more.
func graphOf(p impl.Protocol, caches int) toldGraph {
	g := toldGraph{systems: []impl.System{firstSystem(caches)}, behind: map[lineKey][]toldAfter{}}
	for i := 0; i < len(g.systems); i++ {
		x := g.systems[i]
		if g.behind[keyOf(x)] != nil {
			continue
		}
		for _, o := range allOps(caches) {
			m := toldOp(p, x, o)
			g.behind[keyOf(x)] = append(g.behind[keyOf(x)], m)
			if !m.isFlaw {
				g.systems = append(g.systems, m.system)
			}
		}
	}
	return g
}

// areAlone reports whether owners are alone in all systems.
func (g toldGraph) areAlone() bool {
	for k := range g.behind {
		copies, owners := 0, 0
		for _, held := range k.copies {
			if held != impl.CopyNone {
				copies++
			}
			if held == impl.CopyOwn || held == impl.CopyDirty {
				owners++
			}
		}
		if owners > 0 && copies > 1 {
			return false
		}
	}
	return true
}

// flaw returns the least of the shortest runs to a flaw: it finds for each system how far the next flaw is, and goes there
// with the least ops.
func (g toldGraph) flaw(caches int) ([]impl.Op, bool) {
	far := map[lineKey]int{}
	for n := 1; n <= len(g.behind); n++ {
		for k, after := range g.behind {
			for _, m := range after {
				if far[k] == 0 && (n == 1 && m.isFlaw || n > 1 && !m.isFlaw && far[keyOf(m.system)] == n-1) {
					far[k] = n
				}
			}
		}
	}
	var ops []impl.Op
	k := keyOf(g.systems[0])
	for n := far[k]; n > 0; n-- {
		for i, m := range g.behind[k] {
			if n == 1 && m.isFlaw || n > 1 && !m.isFlaw && far[keyOf(m.system)] == n-1 {
				ops = append(ops, allOps(caches)[i])
				k = keyOf(m.system)
				break
			}
		}
	}
	return ops, len(ops) > 0
}

// expectSearch fails the test unless all that is searched is as the document tells.
func expectSearch(t *testing.T, p impl.Protocol, caches int) {
	t.Helper()
	what, g := fmt.Sprint(p, caches), graphOf(p, caches)
	flaw, ok := g.flaw(caches)
	expect(t, what, of(impl.ReachedSystems(p, int64(caches))), of(len(g.behind), true))
	expect(t, what, of(impl.OwnersAlone(p, int64(caches))), of(g.areAlone(), true))
	expect(t, what, of(impl.ShortestFlaw(p, int64(caches))), of(flaw, ok))
	if ok {
		expect(t, what, of(runOps(p, caches, flaw).flaw), of(len(flaw)-1))
	}
}

func TestCachesLimits(t *testing.T) {
	expect(t, "limits", of(impl.MaxCaches, impl.MaxOps, impl.MaxLitmus, impl.MaxBuffer), of(3, 40, 4, 3))
	expect(t, "copies", of(impl.CopyNone, impl.CopyShared, impl.CopyOwn, impl.CopyDirty), of(0, 1, 2, 3))
	expect(t, "ops", of(impl.OpRead, impl.OpWrite, impl.OpEvict), of(0, 1, 2))
}

func TestKnownProtocols(t *testing.T) {
	for _, is := range []bool{false, true} {
		expect(t, fmt.Sprint("MsiProtocol ", is), of(impl.MsiProtocol(is)), of(toldMsi(is)))
		expect(t, fmt.Sprint("ThroughProtocol ", is), of(impl.ThroughProtocol(is)), of(toldThrough(is)))
	}
	in := "[{2 1 false} {1 1 false} {2 1 false} {3 1 false}] [{3 1 false} {3 1 false} {3 1 false} {3 1 false}] [{0 1 false} {0 1 false} {0 1 false} {0 1 true}]"
	full := "{" + in + " [{0 1 false} {1 1 false} {1 1 false} {1 1 true}] [{0 1 false} {0 1 false} {0 1 false} {0 1 true}]}"
	expect(t, "in full", of(fmt.Sprint(impl.MsiProtocol(true))), of(full))
}

func TestValidProtocol(t *testing.T) {
	for _, p := range slices.Concat(validProtocols(), brokenProtocols(), drawnProtocols(40)) {
		expect(t, fmt.Sprint(p), of(impl.ValidProtocol(p)), of(true))
	}
	for _, p := range badProtocols() {
		expect(t, fmt.Sprint(p), of(impl.ValidProtocol(p)), of(false))
		expectProtocolFailures(t, p)
	}
	for _, p := range knownProtocols() {
		eachRule(func(table, held int, r impl.Rule) {
			expect(t, fmt.Sprint(table, held, r), of(impl.ValidProtocol(changed(p, table, held, r))), of(mayBe(table, held, r)))
		})
	}
}

// expectProtocolFailures fails the test unless all functions fail with a protocol.
func expectProtocolFailures(t *testing.T, p impl.Protocol) {
	t.Helper()
	what := fmt.Sprint(p)
	for held := range int64(4) {
		expect(t, what, of(impl.ChangeRule(p, inWrite, held, rule("d", false))), of(impl.Protocol{}, false))
	}
	expect(t, what, of(impl.StepSystem(p, systemFrom("n n +"), impl.Op{})), of(impl.System{}, false, false))
	for caches := range int64(5) {
		expectSearchFailures(t, p, caches, nil)
	}
}

// expectSearchFailures fails the test unless all functions that begin with the first system fail.
func expectSearchFailures(t *testing.T, p impl.Protocol, caches int64, ops []impl.Op) {
	t.Helper()
	what := fmt.Sprint(p, caches)
	expect(t, what, of(impl.RunSystem(p, caches, ops)), of(impl.System{}, 0, false))
	expect(t, what, of(impl.BusTraffic(p, caches, ops)), of(0, 0, false))
	expect(t, what, of(impl.ReachedSystems(p, caches)), of(0, false))
	expect(t, what, of(impl.OwnersAlone(p, caches)), of(false, false))
	expect(t, what, of(impl.ShortestFlaw(p, caches)), of([]impl.Op{}, false))
}

// TestNumbersOfCaches: there are 1 to MaxCaches of them.
func TestNumbersOfCaches(t *testing.T) {
	for _, p := range knownProtocols() {
		for _, caches := range []int64{0, 4, -1, 5, 1 << 32, 1<<32 + 1, math.MinInt64, math.MaxInt64} {
			expectSearchFailures(t, p, caches, nil)
			expectSearchFailures(t, p, caches, opsFrom("r0"))
		}
		for caches := range 3 {
			expect(t, fmt.Sprint(p, caches+1), of(impl.RunSystem(p, int64(caches+1), nil)), of(firstSystem(caches+1), -1, true))
			expect(t, fmt.Sprint(p, caches+1), of(impl.BusTraffic(p, int64(caches+1), nil)), of(0, 0, true))
		}
	}
}

func TestChangeRule(t *testing.T) {
	for _, p := range knownProtocols() {
		given := fmt.Sprint(p)
		eachRule(func(table, held int, r impl.Rule) {
			what := fmt.Sprint(p, table, held, r)
			if mayBe(table, held, r) {
				expect(t, what, of(impl.ChangeRule(p, int64(table), int64(held), r)), of(changed(p, table, held, r), true))
			} else {
				expect(t, what, of(impl.ChangeRule(p, int64(table), int64(held), r)), of(impl.Protocol{}, false))
			}
		})
		expect(t, "unchanged", of(fmt.Sprint(p)), of(given))
		for _, n := range []int64{-1, 5, -2, 6, 1 << 32, 1<<32 + 1, math.MinInt64, math.MaxInt64} {
			expect(t, fmt.Sprint("table ", n), of(impl.ChangeRule(p, n, 1, rule("s", false))), of(impl.Protocol{}, false))
			expect(t, fmt.Sprint("table ", n), of(impl.ChangeRule(p, n, 0, impl.Rule{})), of(impl.Protocol{}, false))
		}
		for _, n := range []int64{-1, 4, -2, 5, 1 << 32, 1<<32 + 1, math.MinInt64, math.MaxInt64} {
			for table := range int64(5) {
				expect(t, fmt.Sprint("held ", n), of(impl.ChangeRule(p, table, n, rule("s", false))), of(impl.Protocol{}, false))
				expect(t, fmt.Sprint("held ", n), of(impl.ChangeRule(p, table, n, rule("n", false))), of(impl.Protocol{}, false))
			}
			for table := range int64(5) {
				expect(t, fmt.Sprint("Next ", n), of(impl.ChangeRule(p, table, 1, impl.Rule{Next: n, Shared: 1})), of(impl.Protocol{}, false))
				expect(t, fmt.Sprint("Shared ", n), of(impl.ChangeRule(p, table, 1, impl.Rule{Shared: n})), of(impl.Protocol{}, false))
				expect(t, fmt.Sprint("Shared ", n), of(impl.ChangeRule(p, table, 1, impl.Rule{Next: 1, Shared: n})), of(impl.Protocol{}, false))
			}
		}
	}
}

// TestChangedMemory: a protocol that is changed once more leaves the others as they are.
func TestChangedMemory(t *testing.T) {
	first := impl.MsiProtocol(false)
	second, _ := impl.ChangeRule(first, 4, 1, rule("s", false))
	third, _ := impl.ChangeRule(second, 4, 1, rule("o", true))
	second.SeeWrite[2] = rule("d", true)
	expect(t, "first", of(first), of(toldMsi(false)))
	expect(t, "third", of(third), of(changed(toldMsi(false), inSeeWrite, 1, rule("o", true))))
	expect(t, "another", of(impl.MsiProtocol(false)), of(toldMsi(false)))
}

func TestValidSystem(t *testing.T) {
	for caches := 1; caches <= 3; caches++ {
		for _, x := range allSystems(caches) {
			expect(t, fmt.Sprint(x), of(impl.ValidSystem(x)), of(true))
		}
	}
	for _, x := range badSystems() {
		expect(t, fmt.Sprint(x), of(impl.ValidSystem(x)), of(false))
		for _, o := range allOps(3) {
			expect(t, fmt.Sprint(x, o), of(impl.StepSystem(toldMsi(true), x, o)), of(impl.System{}, false, false))
		}
	}
}

// TestSystemsOfZeros: CopyNone that is fresh is not valid, wherever it stands.
func TestSystemsOfZeros(t *testing.T) {
	for n := range 8 {
		x := firstSystem(3)
		for cache := range 3 {
			x.Fresh[cache] = n>>cache%2 == 1
		}
		expect(t, fmt.Sprint(x), of(impl.ValidSystem(x)), of(n == 0))
	}
}

func TestBadOps(t *testing.T) {
	for caches := range int64(3) {
		x := firstSystem(int(caches + 1))
		for _, p := range knownProtocols() {
			for _, o := range badOps(caches + 1) {
				expect(t, fmt.Sprint(x, o), of(impl.StepSystem(p, x, o)), of(impl.System{}, false, false))
				for _, ops := range [][]impl.Op{{o}, append(opsFrom("r0 w0"), o), append([]impl.Op{o}, opsFrom("r0")...)} {
					expect(t, fmt.Sprint(ops), of(impl.RunSystem(p, caches+1, ops)), of(impl.System{}, 0, false))
					expect(t, fmt.Sprint(ops), of(impl.BusTraffic(p, caches+1, ops)), of(0, 0, false))
				}
			}
		}
	}
}

// step is an op at a system with what is wanted behind it.
type step struct {
	what     string
	protocol impl.Protocol
	before   string
	op       string
	after    string
	isFlaw   bool
}

// expectSteps fails the test unless all steps are as wanted.
func expectSteps(t *testing.T, steps []step) {
	t.Helper()
	for _, x := range steps {
		after, isFlaw, ok := impl.StepSystem(x.protocol, systemFrom(x.before), opsFrom(x.op)[0])
		expect(t, x.what, of(after, isFlaw, ok), of(systemFrom(x.after), x.isFlaw, true))
	}
}

// TestReadOfCopy: a cache reads the copy that it has, which no other cache sees.
func TestReadOfCopy(t *testing.T) {
	p := toldMsi(false)
	other := changed(changed(changed(p, inRead, 1, rule("o", true)), inRead, 2, rule("d", false)), inRead, 3, rule("s", false))
	expectSteps(t, []step{
		{"a fresh one", p, "s+ n +", "r0", "s+ n +", false},
		{"a fresh one beside a memory that is not", p, "s+ d- -", "r0", "s+ d- -", false},
		{"one that is not fresh", p, "s- n +", "r0", "s- n +", true},
		{"one that is not fresh beside a fresh one", p, "n s+ d- -", "r2", "n s+ d- -", true},
		{"one that is not fresh where nothing is", p, "o- d- -", "r1", "o- d- -", true},
		{"others see nothing", p, "s+ d+ o+ -", "r0", "s+ d+ o+ -", false},
		{"CopyShared becomes another one", other, "s+ s- n +", "r0", "o+ s- n +", false},
		{"CopyOwn becomes another one", other, "s+ o+ n -", "r1", "s+ d+ n -", false},
		{"CopyDirty becomes another one", other, "s+ s- d+ -", "r2", "s+ s- s+ -", false},
		{"one that is not fresh becomes another one", other, "s- s- n +", "r1", "s- o- n +", true},
	})
}

// TestReadOfMemory: a cache without a copy reads the memory after the others have seen this.
func TestReadOfMemory(t *testing.T) {
	p, kept := toldMsi(true), changed(toldMsi(true), inSeeRead, 3, rule("d", false))
	lost := changed(changed(changed(toldMsi(true), inSeeRead, 1, rule("n", false)), inSeeRead, 2, rule("n", true)), inSeeRead, 3, rule("n", true))
	expectSteps(t, []step{
		{"alone", p, "n n n +", "r1", "n o+ n +", false},
		{"the only cache", p, "n +", "r0", "o+ +", false},
		{"alone at a memory that is not fresh", p, "n n -", "r1", "n o- -", true},
		{"beside CopyShared", p, "n s+ +", "r0", "s+ s+ +", false},
		{"beside CopyShared that is not fresh", p, "n s- +", "r0", "s+ s- +", false},
		{"beside CopyShared that alone is fresh", p, "s+ n -", "r1", "s+ s- -", true},
		{"beside CopyOwn", p, "n n o+ +", "r0", "s+ n s+ +", false},
		{"beside CopyOwn that alone is fresh", p, "o+ n -", "r1", "s+ s- -", true},
		{"beside CopyDirty", p, "d+ n -", "r1", "s+ s+ +", false},
		{"beside CopyDirty that is not fresh", p, "d- n +", "r1", "s- s- -", true},
		{"beside CopyDirty without Back", kept, "d+ n -", "r1", "d+ s- -", true},
		{"beside CopyDirty without Back at a fresh memory", kept, "d+ n +", "r1", "d+ s+ +", false},
		{"the other one loses CopyShared", lost, "n s+ +", "r0", "o+ n +", false},
		{"the other one loses what alone is fresh", lost, "n s+ -", "r0", "o- n -", true},
		{"the other one loses CopyOwn to the memory", lost, "o+ n -", "r1", "n o+ +", false},
		{"the other ones lose CopyDirty", lost, "d+ n d+ -", "r1", "n o+ n +", false},
		{"the later one of two others is fresh", p, "n d- d+ -", "r0", "s+ s- s+ +", false},
		{"the earlier one of two others is fresh", p, "n d+ d- -", "r0", "s- s+ s- -", true},
		{"the later one of two others beside the cache in the middle", lost, "d- n o+ -", "r1", "n o+ n +", false},
		{"the earlier one of two others beside the cache in the middle", lost, "d+ n o- +", "r1", "n o- n -", true},
		{"the last cache reads after two others", p, "d- d+ n -", "r2", "s- s+ s+ +", false},
		{"one of two others loses its copy", changed(p, inSeeRead, 1, rule("n", false)), "n s+ d+ -", "r0", "s+ n s+ +", false},
		{"Next and Shared of other copies", changed(p, inRead, 0, impl.Rule{Next: 3, Shared: 2}), "n n n +", "r2", "n n d+ +", false},
		{"Shared of other copies", changed(p, inRead, 0, impl.Rule{Next: 3, Shared: 2}), "n s+ n +", "r2", "n s+ o+ +", false},
		{"Back of Read means nothing", changed(p, inRead, 0, impl.Rule{Next: 2, Shared: 1, Back: true}), "n n -", "r0", "o- n -", true},
	})
}

// TestWriteOfCache: others see a write only if the cache has no copy or CopyShared, and then nothing else is fresh.
func TestWriteOfCache(t *testing.T) {
	p, through := toldMsi(false), toldThrough(false)
	kept := changed(p, inSeeWrite, 1, rule("s", false))
	gone := changed(changed(changed(changed(p, inWrite, 0, rule("n", true)), inWrite, 1, rule("n", false)), inWrite, 2, rule("n", true)), inWrite, 3, rule("n", false))
	expectSteps(t, []step{
		{"without a copy", p, "n s+ o+ +", "w0", "d+ n n -", false},
		{"with CopyShared", p, "s+ s+ d- +", "w1", "n d+ n -", false},
		{"with CopyOwn others do not see it", p, "s+ s+ o+ +", "w2", "s- s- d+ -", false},
		{"with CopyDirty others do not see it", p, "o+ d+ d+ -", "w1", "o- d+ d- -", false},
		{"a copy that is not fresh", p, "s- n +", "w0", "d+ n -", false},
		{"where nothing is fresh", p, "n d- -", "w0", "d+ n -", false},
		{"the only cache", p, "n +", "w0", "d+ -", false},
		{"others keep what is not fresh", kept, "s+ s+ d+ +", "w0", "d+ s- n -", false},
		{"others see it in other copies", changed(p, inSeeWrite, 2, rule("d", true)), "n o+ n -", "w0", "d+ d- n -", false},
		{"through to the memory", through, "s+ s+ +", "w0", "s+ n +", false},
		{"through to the memory without a copy", through, "n s+ s+ +", "w0", "n n n +", false},
		{"through to the memory without a copy, which is kept", toldThrough(true), "n s+ s+ +", "w0", "s+ n n +", false},
		{"no copy becomes none with Back", gone, "n s+ +", "w0", "n n +", false},
		{"CopyShared becomes none without Back", gone, "s+ s+ +", "w0", "n n -", true},
		{"CopyOwn becomes none with Back", gone, "o+ s+ +", "w0", "n s- +", false},
		{"CopyDirty becomes none without Back", gone, "s+ d+ -", "w1", "s- n -", true},
		{"what others bring back is written over", changed(gone, inSeeWrite, 1, rule("s", true)), "s+ s+ +", "w0", "n s- -", true},
		{"Shared of Write means nothing", changed(p, inWrite, 1, impl.Rule{Next: 2, Shared: 3}), "s+ s+ +", "w0", "o+ n -", false},
	})
}

// TestEvictOfCache: a copy goes with Back, and is lost without.
func TestEvictOfCache(t *testing.T) {
	p := toldMsi(true)
	all := changed(changed(p, inEvict, 1, rule("n", true)), inEvict, 2, rule("n", true))
	none := changed(p, inEvict, 3, rule("n", false))
	expectSteps(t, []step{
		{"no copy", p, "n s+ +", "e0", "n s+ +", false},
		{"no copy at a memory that is not fresh", all, "n d+ -", "e0", "n d+ -", false},
		{"no copy where nothing is fresh", p, "n s- -", "e0", "n s- -", true},
		{"CopyShared", p, "s+ s+ +", "e1", "s+ n +", false},
		{"CopyShared that alone is fresh", p, "n s+ -", "e1", "n n -", true},
		{"CopyShared with Back", all, "n s+ -", "e1", "n n +", false},
		{"CopyShared with Back that is not fresh", all, "s+ s- +", "e1", "s+ n -", false},
		{"CopyOwn", p, "o+ n +", "e0", "n n +", false},
		{"CopyOwn that alone is fresh", p, "o+ n -", "e0", "n n -", true},
		{"CopyOwn with Back", all, "o+ d- -", "e0", "n d- +", false},
		{"CopyDirty with Back", p, "n n d+ -", "e2", "n n n +", false},
		{"CopyDirty with Back that is not fresh", p, "n s+ d- +", "e2", "n s+ n -", false},
		{"CopyDirty with Back that is not fresh over the memory that alone is", p, "n s- d- +", "e2", "n s- n -", true},
		{"CopyDirty without Back", none, "s- d+ -", "e1", "s- n -", true},
		{"CopyDirty without Back beside a fresh copy", none, "s+ d+ -", "e1", "s+ n -", false},
	})
}

// TestStepSystem: every op at every system is as the document tells.
func TestStepSystem(t *testing.T) {
	for i, p := range slices.Concat(knownProtocols(), drawnProtocols(40)) {
		for caches := 1 + i%2; caches <= 3; caches++ {
			for _, x := range allSystems(caches) {
				for _, o := range allOps(caches) {
					m := toldOp(p, x, o)
					after, isFlaw, ok := impl.StepSystem(p, x, o)
					if keyOf(after) != keyOf(m.system) || len(after.Copies) != caches || len(after.Fresh) != caches || isFlaw != m.isFlaw || !ok {
						t.Errorf("%v %v %v: got %v %v %v, want %v", p, x, o, after, isFlaw, ok, m)
					}
				}
			}
		}
	}
}

func TestRunSystem(t *testing.T) {
	p, lost := toldMsi(true), changed(toldMsi(true), inEvict, 3, rule("n", false))
	many := opsFrom(strings.Repeat("r0 w0 r0 e0 ", 10))
	for _, x := range []struct {
		protocol impl.Protocol
		caches   int64
		ops      []impl.Op
		after    string
		flaw     int64
	}{
		{p, 2, nil, "n n +", -1},
		{p, 2, opsFrom("r0"), "o+ n +", -1},
		{p, 2, opsFrom("r0 r1"), "s+ s+ +", -1},
		{p, 2, opsFrom("r0 r1 w1 r0"), "s+ s+ +", -1},
		{p, 3, opsFrom("r0 r1 w2"), "n n d+ -", -1},
		{p, 2, many, "n n +", -1},
		{lost, 2, opsFrom("e0 e1"), "n n +", -1},
		{lost, 2, many, "n n -", 3},
		{lost, 2, opsFrom("w1 e1 w0 r0"), "n n -", 1},
		{lost, 3, append(slices.Repeat(opsFrom("r0"), 38), opsFrom("w0 e0")...), "n n n -", 39},
		{changed(p, inWrite, 0, impl.Rule{}), 2, opsFrom("w1 r0"), "n n -", 0},
		{changed(p, inWrite, 0, impl.Rule{}), 1, opsFrom("w0"), "n -", 0},
		{changed(toldMsi(false), inSeeWrite, 1, rule("s", false)), 2, opsFrom("r0 w1 r0 w0"), "s- d+ -", 2},
	} {
		expect(t, fmt.Sprint(x.protocol, x.ops), of(impl.RunSystem(x.protocol, x.caches, x.ops)), of(systemFrom(x.after), x.flaw, true))
		expectRunOps(t, x.protocol, int(x.caches), x.ops)
	}
	for _, q := range []impl.Protocol{p, lost} {
		expect(t, "41 ops", of(impl.RunSystem(q, 2, append(many, impl.Op{}))), of(impl.System{}, 0, false))
		expect(t, "41 ops", of(impl.BusTraffic(q, 2, append(slices.Clone(many), impl.Op{}))), of(0, 0, false))
	}
	for _, o := range badOps(2) {
		expect(t, fmt.Sprint("behind a flaw ", o), of(impl.RunSystem(lost, 2, append(opsFrom("w0 e0"), o))), of(impl.System{}, 0, false))
	}
}

// TestDrawnRuns: runs and their traffic are as the document tells, up to MaxOps ops.
func TestDrawnRuns(t *testing.T) {
	for i, p := range slices.Concat(knownProtocols(), validProtocols(), drawnProtocols(120)) {
		for caches := 1; caches <= 3; caches++ {
			for seed := range uint64(4) {
				ops := drawnOps(seed+uint64(10*i), caches)
				for _, n := range []int{1, 2, 5, 12, 40} {
					expectRunOps(t, p, caches, ops[:n])
				}
			}
		}
	}
}

func TestBusTraffic(t *testing.T) {
	both := changed(toldMsi(false), inWrite, 0, rule("d", true))
	for _, x := range []struct {
		what     string
		protocol impl.Protocol
		caches   int64
		ops      string
		seen     int64
		backs    int64
	}{
		{"no ops", toldMsi(true), 1, "", 0, 0},
		{"reads of one cache", toldMsi(true), 1, "r0 r0 r0", 1, 0},
		{"a write of one cache without a copy", toldMsi(true), 1, "w0", 1, 0},
		{"with CopyOwn nothing is seen", toldMsi(true), 2, "r0 w0 w0", 1, 0},
		{"with CopyShared a write is seen", toldMsi(false), 2, "r0 w0 w0", 2, 0},
		{"evicts are not seen", toldMsi(false), 2, "e0 r1 e1", 1, 0},
		{"an evict of CopyDirty", toldMsi(false), 2, "w0 e0 e0", 1, 1},
		{"a read beside CopyDirty", toldMsi(false), 2, "w0 r1", 2, 1},
		{"a write beside CopyDirty", toldMsi(false), 2, "w0 w1", 2, 1},
		{"writes through", toldThrough(true), 2, "w0 w0 w1", 3, 3},
		{"a copy and a write in one op", both, 2, "w0 w1", 2, 3},
		{"two copies and a write in one op", changed(changed(both, inSeeWrite, 1, rule("n", true)), inSeeRead, 3, rule("s", false)), 3, "r1 r2 w0", 3, 3},
		{"two copies in one read", changed(toldMsi(false), inSeeRead, 1, rule("s", true)), 3, "r0 r1 r2", 3, 3},
		{"a fresh copy and a fresh memory", changed(toldMsi(false), inEvict, 1, rule("n", true)), 2, "r0 e0", 1, 1},
	} {
		expect(t, x.what, of(impl.BusTraffic(x.protocol, x.caches, opsFrom(x.ops))), of(x.seen, x.backs, true))
		expectRunOps(t, x.protocol, int(x.caches), opsFrom(x.ops))
	}
	lost := changed(toldMsi(true), inEvict, 3, rule("n", false))
	for _, s := range []string{"w0 e0", "w0 e0 r1", "r0 r1 w1 e0 e1"} {
		expect(t, s, of(impl.BusTraffic(lost, 2, opsFrom(s))), of(0, 0, false))
	}
}

// TestNoFlaws: the known protocols have no flaw, and each number of what they reach.
func TestNoFlaws(t *testing.T) {
	for i, reached := range [][]int64{{3, 6, 11}, {3, 8, 14}, {2, 4, 8}, {2, 4, 8}} {
		p := knownProtocols()[i]
		for caches := 1; caches <= 3; caches++ {
			what := fmt.Sprint(p, caches)
			expect(t, what, of(impl.ReachedSystems(p, int64(caches))), of(reached[caches-1], true))
			expect(t, what, of(impl.OwnersAlone(p, int64(caches))), of(true, true))
			expect(t, what, of(impl.ShortestFlaw(p, int64(caches))), of([]impl.Op{}, false))
			expectSearch(t, p, caches)
		}
	}
}

func TestShortestFlaw(t *testing.T) {
	for _, x := range []struct {
		what     string
		protocol impl.Protocol
		caches   int64
		flaw     string
	}{
		{"the example", changed(toldMsi(false), inSeeWrite, 1, rule("s", false)), 2, "r0 w1 r0"},
		{"the example in three caches", changed(toldMsi(false), inSeeWrite, 1, rule("s", false)), 3, "r0 w1 r0"},
		{"the example in one cache", changed(toldMsi(false), inSeeWrite, 1, rule("s", false)), 1, ""},
		{"an evict", changed(toldMsi(true), inEvict, 3, rule("n", false)), 1, "w0 e0"},
		{"an evict in three caches", changed(toldMsi(true), inEvict, 3, rule("n", false)), 3, "w0 e0"},
		{"a first write", changed(toldMsi(true), inWrite, 0, rule("n", false)), 3, "w0"},
		{"a write after a read", changed(toldMsi(false), inWrite, 1, rule("n", false)), 2, "r0 w0"},
		{"a second write", changed(toldMsi(true), inWrite, 3, rule("n", false)), 2, "w0 w0"},
		{"a read without a copy", changed(toldMsi(true), inSeeRead, 3, rule("s", false)), 2, "w0 r1"},
		{"a read before an evict", changed(changed(toldMsi(true), inSeeRead, 3, rule("s", false)), inEvict, 3, rule("n", false)), 2, "w0 r1"},
		{"a read before a later one and an evict", changed(toldMsi(true), inWrite, 2, rule("s", false)), 3, "r0 w0 r1"},
		{"a read of what others keep", changed(toldThrough(true), inSeeWrite, 1, rule("s", true)), 2, "r0 w1 r0"},
		{"none though others lose their copies", changed(toldMsi(true), inSeeRead, 3, rule("n", true)), 3, ""},
		{"several reads in a row", protocolFrom("s o s s", "n! s! s! o!", "n n n n", "n n s d!", "n n n n"), 3, "r0 r0 r1 r0 w0 r1"},
		{"none", changed(toldMsi(true), inSeeRead, 2, rule("n", true)), 3, ""},
	} {
		expect(t, x.what, of(impl.ShortestFlaw(x.protocol, x.caches)), of(opsFrom(x.flaw), x.flaw != ""))
		expectSearch(t, x.protocol, int(x.caches))
	}
}

// TestBehindFlaws: systems that only flaws lead to are not reached, so that owners are alone.
func TestBehindFlaws(t *testing.T) {
	kept := changed(toldMsi(false), inSeeRead, 3, rule("d", false))
	behind, isFlaw, _ := impl.StepSystem(kept, systemFrom("d+ n -"), opsFrom("r1")[0])
	expect(t, "behind a flaw", of(behind, isFlaw), of(systemFrom("d+ s- -"), true))
	expect(t, "owners", of(impl.OwnersAlone(kept, 2)), of(true, true))
	expect(t, "reached", of(impl.ReachedSystems(kept, 2)), of(6, true))
	lost := changed(toldMsi(true), inEvict, 3, rule("n", false))
	expect(t, "reached in one cache", of(impl.ReachedSystems(lost, 1)), of(3, true))
	first := changed(toldMsi(true), inWrite, 0, rule("n", false))
	expect(t, "no first write", of(impl.ReachedSystems(first, 1)), of(3, true))
	dirty := changed(toldMsi(false), inSeeWrite, 1, rule("s", false))
	own := changed(toldMsi(true), inSeeRead, 2, rule("o", false))
	for caches := int64(1); caches <= 3; caches++ {
		expect(t, "CopyDirty beside others", of(impl.OwnersAlone(dirty, caches)), of(caches == 1, true))
		expect(t, "CopyOwn beside others", of(impl.OwnersAlone(own, caches)), of(caches == 1, true))
	}
}

// TestBrokenProtocols: each protocol with another rule has the flaw that the document tells, or none.
func TestBrokenProtocols(t *testing.T) {
	for _, p := range brokenProtocols() {
		for caches := 1; caches <= 3; caches++ {
			expectSearch(t, p, caches)
		}
	}
}

// TestDrawnProtocols: so do protocols in which many rules are others.
func TestDrawnProtocols(t *testing.T) {
	for i, p := range drawnProtocols(400) {
		expectSearch(t, p, 1+i%3)
	}
}

// TestLeastOfShortest: a search of all ops up to some length finds the same flaw.
func TestLeastOfShortest(t *testing.T) {
	for _, p := range append(brokenProtocols()[:200:200], drawnProtocols(60)...) {
		flaw, ok := impl.ShortestFlaw(p, 2)
		if !ok || len(flaw) > 4 {
			continue
		}
		expect(t, fmt.Sprint(p), of(flaw), of(firstFlaw(p, 2, len(flaw))))
	}
}

// firstFlaw returns the first ops, the shorter ones first and then in lexicographic order, of which the last one is a flaw.
func firstFlaw(p impl.Protocol, caches, most int) []impl.Op {
	lists := [][]impl.Op{nil}
	for range most {
		var longer [][]impl.Op
		for _, list := range lists {
			for _, o := range allOps(caches) {
				ops := append(slices.Clone(list), o)
				if runOps(p, caches, ops).flaw >= 0 {
					return ops
				}
				longer = append(longer, ops)
			}
		}
		lists = longer
	}
	return nil
}
