package tests

// Promises 12 and 13 (chapter 11), for benches: what a bench outputs is what policies, the optimal replacement and caches tell,
// and the journal is recovered as far as it is intact.

import (
	"fmt"
	"regexp"
	"slices"
	"strconv"
	"strings"
	"testing"

	"loop.example/g01112/impl"
)

// benchWith returns the bench whose trace and policy have these texts.
func benchWith(trace, policy string) impl.Bench {
	return impl.Bench{Trace: traceWithText(trace), Policy: policyWithText(policy)}
}

// textsOf returns the texts of the trace and of the policy of a bench.
func textsOf(b impl.Bench) string {
	trace, _ := impl.TraceText(b.Trace)
	policy, _ := impl.PolicyText(b.Policy)
	return trace + " at " + policy
}

// badBenches are benches that are not valid.
func badBenches() []impl.Bench {
	bad := []impl.Bench{{}, {Trace: traceWithText("5")}}
	for _, trace := range badTraces() {
		bad = append(bad, impl.Bench{Trace: trace, Policy: policyWithText("01/10|10")})
	}
	for _, p := range badPolicies() {
		bad = append(bad, impl.Bench{Policy: p}, impl.Bench{Trace: traceWithText("5*3"), Policy: p})
	}
	return append(bad, impl.Bench{Trace: badTraces()[0], Policy: badPolicies()[0]})
}

// manyBenches are benches with traces and policies of all kinds.
func manyBenches() []impl.Bench {
	var many []impl.Bench
	traces := [][]impl.Access{nil, traceWithText("5"), traceWithText("63w*60"), traceWithText("5 5w*2 3"), traceWithText("0 1 2 0 1")}
	for seed := range uint64(9) {
		traces = append(traces, drawnTrace(seed, impl.MaxTrace, int64(3+6*seed), 40), drawnTrace(seed+20, int(10+3*seed), int64(8+4*seed), 15))
	}
	for _, p := range cachePolicies() {
		for _, trace := range traces {
			many = append(many, impl.Bench{Trace: trace, Policy: p})
		}
	}
	return many
}

// expectLine fails the test unless the line outputs this, and leaves a bench with this trace and policy.
func expectLine(t *testing.T, b impl.Bench, line, output string, after impl.Bench) {
	t.Helper()
	got, said, ok := impl.BenchCommand(b, line)
	if !ok || said != output || show(got) != show(after) || !impl.ValidBench(got) {
		t.Errorf("%q at %s: %q and %s, %v, want %q and %s", line, textsOf(b), said, textsOf(got), ok, output, textsOf(after))
	}
}

// expectAsked fails the test unless the line outputs this and leaves the bench as it is.
func expectAsked(t *testing.T, b impl.Bench, line, output string) {
	t.Helper()
	expectLine(t, b, line, output, b)
}

func TestBenchExample(t *testing.T) {
	b, said, ok := impl.BenchCommand(benchWith("", "0|0"), "trace 5*3")
	expect(t, "trace", of(b, said, ok), of(benchWith("5*3", "0|0"), "ok", true))
	b, said, ok = impl.BenchCommand(b, "run")
	expect(t, "run", of(b, said, ok), of(benchWith("5*3", "0|0"), "2 1", true))
	b, said, ok = impl.RunBench(benchWith("", "0|0"), "trace 5*3\nrun\n")
	expect(t, "script", of(b, said, ok), of(benchWith("5*3", "0|0"), "ok\n2 1\n", true))
}

func TestValidBench(t *testing.T) {
	for _, b := range manyBenches() {
		expect(t, textsOf(b), of(impl.ValidBench(b)), of(true))
	}
	for _, b := range badBenches() {
		expect(t, "bad bench", of(impl.ValidBench(b)), of(false))
		for _, line := range []string{"", "run", "trace 5", "policy 0|0", "fly"} {
			after, said, ok := impl.BenchCommand(b, line)
			expect(t, line, of(after, said, ok), of(impl.Bench{}, "", false))
		}
		for _, script := range []string{"", "\n", "trace 5\npolicy 0|0\nrun\n", "run"} {
			after, said, ok := impl.RunBench(b, script)
			expect(t, script, of(after, said, ok), of(impl.Bench{}, "", false))
		}
	}
}

// TestSetLines: a trace and a policy are read, and nothing else changes.
func TestSetLines(t *testing.T) {
	b := benchWith("5 5w*2 3", "01/10|10")
	for _, text := range []string{"", "5", "5 5w*2 3", "0w*60", "63 62 63", "1 2w 3*2 4w*5"} {
		expectLine(t, b, "trace "+text, "ok", benchWith(text, "01/10|10"))
	}
	for _, text := range []string{"0|0", "01/10|10", "10/01|01", "012/102/201|201", "012345/012345/012345/012345/012345/012345|501234"} {
		expectLine(t, b, "policy "+text, "ok", benchWith("5 5w*2 3", text))
	}
	for _, text := range []string{" ", " 5", "5 ", "5  5w", "5 5", "05", "64", "-1", "5*1", "5*61", "5*60 6", "5\r", "5\n", "5\t", "trace 5", "none", "x", "5W", strings.Repeat("5", 5000)} {
		expectAsked(t, b, "trace "+text, "no")
	}
	for _, text := range []string{"", " ", " 0|0", "0|0 ", "0|1", "0/0|0", "01/10|11", "01 /10|10", "0|0\r", "0|0\n", "0", "lru", "policy 0|0", "0123456|0123456", strings.Repeat("0", 5000)} {
		expectAsked(t, b, "policy "+text, "no")
	}
}

// TestAskLines has lines and their outputs for benches, told by hand.
func TestAskLines(t *testing.T) {
	for _, c := range []struct {
		trace, policy string
		outputs       map[string]string
	}{
		{"5 5w*2 3", "01/10|10", map[string]string{"run": "2 2", "contents": "3 5", "best": "2", "ratio": "1", "curve": "2 2 2 2 2 2", "forget": "2", "traffic 1 0": "2 2 8 0 4", "traffic 0 0": "2 2 8 2 0"}},
		{"0 0w 4 0w*2", "0|0", map[string]string{"run": "2 3", "contents": "0", "best": "3", "ratio": "1", "curve": "3 2 2 2 2 2", "forget": "1",
			"traffic 0 0": "1 4 8 3 0", "traffic 0 1": "2 3 12 3 0", "traffic 1 0": "1 4 8 6 0", "traffic 1 1": "2 3 12 4 4"}},
		{"0 1 2 0 1", "01/10|10", map[string]string{"run": "0 5", "contents": "1 0", "best": "4", "ratio": "5/4", "curve": "5 4 3 3 3 3", "forget": "2", "traffic 0 0": "4 1 4 0 0", "traffic 1 1": "4 1 4 0 0"}},
		// The bench has no uses, and only ratio fails.
		{"", "01/01|10", map[string]string{"run": "0 0", "contents": "-1 -1", "best": "0", "ratio": "no", "curve": "0 0 0 0 0 0", "forget": "3", "traffic 1 1": "0 0 0 0 0"}},
		// The policy replaces what has been used last, and never forgets.
		{"5", "10/01|01", map[string]string{"run": "0 1", "contents": "-1 5", "best": "1", "ratio": "1", "forget": "no", "traffic 0 1": "0 1 4 0 0"}},
		// There are more ways than addresses.
		{"7*2 63w 7", "012345/012345/012345/012345/012345/012345|501234", map[string]string{"run": "2 2", "contents": "63 7 -1 -1 -1 -1", "best": "2", "ratio": "1", "forget": "11", "traffic 0 0": "2 2 4 1 0", "traffic 1 1": "2 2 8 0 4"}},
	} {
		for line, output := range c.outputs {
			expectAsked(t, benchWith(c.trace, c.policy), line, output)
		}
	}
}

// TestOtherLines: lines that are none are told from those that are, and change nothing.
func TestOtherLines(t *testing.T) {
	none := []string{"", " ", "\n", "\r", "\x00", "\xff", "fly", "what", "ok", "no", "trace", "policy", "traffic", "traffic ", "traffic 2 0", "traffic 0 2", "traffic 2", "traffic 0", "traffic 1", "traffic 0 ", "traffic  0", "traffic 0 0 0", "traffic 1 1 1",
		"traffic  0 0", "traffic 0  0", "traffic 0 0 ", "traffic 00", "traffic 00 0", "traffic 0 01", "traffic 1\t1", "traffic -1 0", "traffic x 0", "traffic +1 1", "traffic true false", "traffic 0,0", "traffic 0 0\r", "traffic 1 1\n", "traffic one", "tracer 5", "trace\t5", "trace\n", "trace5", " trace 5", "trac 5", "Trace 5", "TRACE 5", "POLICY 0|0", "policy\r", "policy0|0", "policy\t0|0", "policies 0|0",
		"best curve", "run\nrun", "run\nbest", "ratio 1", "forget 2", "contents 0", "best 2", "curve 6", "run 0", "runs", "ru", "r"}
	for _, word := range []string{"run", "contents", "best", "ratio", "curve", "forget"} {
		none = append(none, word+" ", " "+word, word+"  ", word+" 1", word+"\r", word+"\n", word+"s", word[:len(word)-1], strings.ToUpper(word), strings.ToUpper(word[:1])+word[1:], word+"\x00", "\t"+word, word+" "+word, word[:2]+" "+word[2:])
	}
	for _, b := range []impl.Bench{benchWith("5 5w*2 3", "01/10|10"), benchWith("", "0|0")} {
		for _, line := range append(none, strings.Repeat("run ", 2000), strings.Repeat("x", 10000)) {
			expectAsked(t, b, line, "what")
		}
	}
}

// numbersIn returns the numbers in a text, with single blanks between them.
func numbersIn(t *testing.T, text string) []int64 {
	t.Helper()
	var numbers []int64
	for _, word := range strings.Split(text, " ") {
		n, err := strconv.ParseInt(word, 10, 64)
		if err != nil || strconv.FormatInt(n, 10) != word {
			t.Fatalf("%q is not a list of numbers", text)
		}
		numbers = append(numbers, n)
	}
	return numbers
}

// askBench returns what a bench outputs for a line that asks, which must leave it as it is.
func askBench(t *testing.T, b impl.Bench, line string) string {
	t.Helper()
	after, said, ok := impl.BenchCommand(b, line)
	if !ok || show(after) != show(b) {
		t.Fatalf("%s at %s: %v, %s", line, textsOf(b), ok, textsOf(after))
	}
	return said
}

// blanked returns the text of a list of numbers with blanks between them.
func blanked(numbers ...int64) string {
	return strings.Trim(fmt.Sprint(numbers), "[]")
}

// orNo returns the text, or no for a function that fails.
func orNo(text string, ok bool) string {
	if !ok {
		return "no"
	}
	return text
}

// TestBenchTells: the outputs are what the functions of the other chapters return.
func TestBenchTells(t *testing.T) {
	failing := map[string]int{}
	for _, b := range manyBenches() {
		uses, _ := impl.UsesOf(b.Trace)
		hits, contents, _ := impl.RunPolicy(b.Policy, uses)
		misses, _ := impl.MissesOf(b.Policy, uses)
		best, _ := impl.BestMisses(uses, int64(len(b.Policy.Miss)))
		curve, _ := impl.BestCurve(uses)
		over, under, hasRatio := impl.RatioOf(b.Policy, uses)
		ratio, _ := impl.RatioText(over, under)
		forget, forgets := impl.ForgetAfter(b.Policy)
		told := map[string]string{"run": blanked(int64(len(hits))-misses, misses), "contents": blanked(contents...), "best": blanked(best), "curve": blanked(curve...), "ratio": orNo(ratio, hasRatio), "forget": orNo(blanked(forget), forgets)}
		for i, line := range []string{"traffic 0 0", "traffic 0 1", "traffic 1 0", "traffic 1 1"} {
			x, _ := impl.TrafficOf(impl.Cache{Policy: b.Policy, Back: i >= 2, Allocate: i%2 == 1}, b.Trace)
			told[line] = blanked(x.Hits, x.Misses, x.In, x.Out, x.Flushed)
		}
		for line, want := range told {
			if said := askBench(t, b, line); said != want {
				t.Errorf("%s at %s: %q, want %q", line, textsOf(b), said, want)
			}
			if want == "no" {
				failing[line]++
			}
		}
	}
	if failing["ratio"] == 0 || failing["forget"] == 0 || len(failing) != 2 {
		t.Errorf("failing lines: %v", failing)
	}
}

// TestBenchAgrees: what a bench outputs fits together, and with what the document tells of a run.
func TestBenchAgrees(t *testing.T) {
	for _, b := range manyBenches() {
		var uses []int64
		for _, a := range b.Trace {
			uses = append(uses, a.Address)
		}
		hits, _, end := runOf(b.Policy, uses)
		run, best, curve := numbersIn(t, askBench(t, b, "run")), numbersIn(t, askBench(t, b, "best")), numbersIn(t, askBench(t, b, "curve"))
		misses := int64(strings.Count(fmt.Sprint(hits), "0"))
		ways := len(b.Policy.Miss)
		if len(run) != 2 || run[0]+run[1] != int64(len(uses)) || run[1] != misses || len(best) != 1 || best[0] > run[1] {
			t.Errorf("%s: run %v, best %v", textsOf(b), run, best)
		}
		if len(curve) != impl.MaxWays || curve[ways-1] != best[0] || !slices.IsSortedFunc(curve, func(x, y int64) int { return int(y - x) }) || curve[impl.MaxWays-1] < int64(len(sortedSet(uses))) {
			t.Errorf("%s: best %v, curve %v", textsOf(b), best, curve)
		}
		if contents := numbersIn(t, askBench(t, b, "contents")); !slices.Equal(contents, end) {
			t.Errorf("%s: contents %v, want %v", textsOf(b), contents, end)
		}
		if len(uses) > 0 {
			over, under, isBroken := strings.Cut(askBench(t, b, "ratio"), "/")
			if !isBroken {
				under = "1"
			}
			if x, y := numbersIn(t, over)[0], numbersIn(t, under)[0]; x*best[0] != y*run[1] || commonDivisor(x, y) != 1 {
				t.Errorf("%s: ratio %s/%s of %v", textsOf(b), over, under, run)
			}
		}
		for _, flags := range []string{"0 0", "0 1", "1 0", "1 1"} {
			x := numbersIn(t, askBench(t, b, "traffic "+flags))
			if len(x) != 5 || x[0]+x[1] != int64(len(uses)) || x[2]%impl.LineWords != 0 || flags[0] == '0' && x[4] != 0 || flags == "1 1" && x[3]%impl.LineWords != 0 {
				t.Errorf("%s: traffic %s is %v", textsOf(b), flags, x)
			}
		}
	}
}

// lineForms are the forms of the lines of the table.
var lineForms = regexp.MustCompile(`^(?s:trace (.*)|policy (.*)|(run|contents|best|ratio|curve|forget)|(traffic [01] [01]))$`)

// toldLine carries out a line as the document tells it, and asks the functions of the other chapters.
func toldLine(b impl.Bench, line string) (impl.Bench, string) {
	form := lineForms.FindStringSubmatch(line)
	switch {
	case form == nil:
		return b, "what"
	case strings.HasPrefix(line, "trace "):
		trace, ok := traceOf(form[1])
		if !ok {
			return b, "no"
		}
		b.Trace = trace
		return b, "ok"
	case strings.HasPrefix(line, "policy "):
		if !isPolicyText(form[2]) {
			return b, "no"
		}
		b.Policy = policyWithText(form[2])
		return b, "ok"
	case form[4] != "":
		x, _ := impl.TrafficOf(impl.Cache{Policy: b.Policy, Back: line[8] == '1', Allocate: line[10] == '1'}, b.Trace)
		return b, blanked(x.Hits, x.Misses, x.In, x.Out, x.Flushed)
	}
	return b, toldAnswer(b, line)
}

// toldAnswer is the output of a line that asks about uses and a policy.
func toldAnswer(b impl.Bench, line string) string {
	uses, _ := impl.UsesOf(b.Trace)
	hits, _, end := runOf(b.Policy, uses)
	misses := int64(strings.Count(fmt.Sprint(hits), "0"))
	switch line {
	case "run":
		return blanked(int64(len(hits))-misses, misses)
	case "contents":
		return blanked(end...)
	case "best":
		best, _ := impl.BestMisses(uses, int64(len(b.Policy.Miss)))
		return blanked(best)
	case "ratio":
		over, under, ok := impl.RatioOf(b.Policy, uses)
		return orNo(strings.TrimSuffix(fmt.Sprintf("%d/%d", over, under), "/1"), ok)
	case "curve":
		curve, _ := impl.BestCurve(uses)
		return blanked(curve...)
	}
	n, ok := impl.ForgetAfter(b.Policy)
	return orNo(blanked(n), ok)
}

// scriptLines are lines of all kinds.
func scriptLines() []string {
	return []string{"run", "contents", "best", "ratio", "curve", "forget", "traffic 0 0", "traffic 0 1", "traffic 1 0", "traffic 1 1", "trace ", "trace 5*3", "trace 0 1 2 0 1", "trace 0 0w 4 0w*2", "trace 9w*60", "policy 0|0", "policy 01/10|10", "policy 10/01|01", "policy 012/102/201|201",
		"", "trace", "trace x", "policy ", "policy 0|1", "traffic 2 0", "run ", " run", "run\r", "fly", "RUN", "trace 5 ", "\xff\x00"}
}

// drawnScript returns some of the lines, which follow from a seed.
func drawnScript(seed uint64, length int) []string {
	lines := scriptLines()
	var script []string
	for _, n := range drawn(seed, length, int64(len(lines))) {
		script = append(script, lines[n])
	}
	return script
}

// expectScript fails the test unless the lines, one after another and as one script, do what the document tells.
func expectScript(t *testing.T, b impl.Bench, lines []string) {
	t.Helper()
	told, outputs := b, ""
	for _, line := range lines {
		after, output := toldLine(told, line)
		expectLine(t, told, line, output, after)
		told, outputs = after, outputs+output+"\n"
	}
	script := strings.Join(append(lines, ""), "\n")
	after, said, ok := impl.RunBench(b, script)
	if !ok || said != outputs || show(after) != show(told) {
		t.Errorf("%q: %q and %s, %v, want %q and %s", script, said, textsOf(after), ok, outputs, textsOf(told))
	}
}

func TestScripts(t *testing.T) {
	for _, b := range []impl.Bench{benchWith("", "0|0"), benchWith("5 5w*2 3", "01/10|10"), benchWith("0 1 2 0 1", "012/102/201|201")} {
		expectScript(t, b, nil)
		expectScript(t, b, []string{""})
		expectScript(t, b, scriptLines())
		for _, line := range scriptLines() {
			expectScript(t, b, []string{line})
			expectScript(t, b, []string{line, "run", line, "contents"})
		}
		for seed := range uint64(30) {
			expectScript(t, b, drawnScript(seed, 60))
		}
	}
	// The same line has another output after a change, and the same one after a change back.
	expectScript(t, benchWith("", "0|0"), []string{"run", "trace 5*3", "run", "trace ", "run", "trace 5*3", "run", "trace 5*3", "run", "trace x", "run", "policy 10/01|01", "contents", "trace 5*3", "contents", "policy 0|0", "contents"})
}

// TestScriptEnds: each line ends with a newline, and there are at most MaxScript bytes.
func TestScriptEnds(t *testing.T) {
	b := benchWith("5 5w*2 3", "01/10|10")
	for _, script := range []string{"run", " ", "run\nrun", "\nrun", "\n ", "run\n\r", "trace 5\x00", strings.Repeat("\n", impl.MaxScript+1), strings.Repeat("x", impl.MaxScript), strings.Repeat("x", impl.MaxScript) + "\n", strings.Repeat("run\n", impl.MaxScript/4) + "\n", strings.Repeat("\n", 50000)} {
		after, said, ok := impl.RunBench(b, script)
		expect(t, script[:min(len(script), 50)], of(after, said, ok), of(impl.Bench{}, "", false))
	}
	after, said, ok := impl.RunBench(b, "")
	expect(t, "empty", of(after, said, ok), of(b, "", true))
	after, said, ok = impl.RunBench(b, "\n")
	expect(t, "a newline", of(after, said, ok), of(b, "what\n", true))
	after, said, ok = impl.RunBench(b, strings.Repeat("\n", impl.MaxScript))
	expect(t, "newlines", of(after, said, ok), of(b, strings.Repeat("what\n", impl.MaxScript), true))
	after, said, ok = impl.RunBench(b, strings.Repeat("run\n", impl.MaxScript/4))
	expect(t, "runs", of(after, said, ok), of(b, strings.Repeat("2 2\n", impl.MaxScript/4), true))
	after, said, ok = impl.RunBench(b, strings.Repeat("x", impl.MaxScript-1)+"\n")
	expect(t, "a long line", of(after, said, ok), of(b, "what\n", true))
	after, said, ok = impl.RunBench(b, "trace 5\r\nrun\r\nrun\n")
	expect(t, "carriage returns", of(after, said, ok), of(b, "no\nwhat\n2 2\n", true))
}

// TestScriptInParts: a script that is cut behind any line does in two parts what it does in one.
func TestScriptInParts(t *testing.T) {
	b := benchWith("", "0|0")
	for seed := range uint64(12) {
		lines := drawnScript(seed+100, 40)
		whole := strings.Join(append(lines, ""), "\n")
		end, outputs, _ := impl.RunBench(b, whole)
		for cut := range len(lines) + 1 {
			front := strings.Join(append(slices.Clone(lines[:cut]), ""), "\n")
			if cut == 0 {
				front = ""
			}
			middle, one, isOne := impl.RunBench(b, front)
			after, two, isTwo := impl.RunBench(middle, whole[len(front):])
			expect(t, front, of(after, one+two, isOne, isTwo), of(end, outputs, true, true))
		}
	}
}

// toldJournal is a journal as the document tells it.
func toldJournal(lines []string) string {
	journal, letters := "", ""
	for _, line := range lines {
		letters = lettersOf(letters + line)
		journal += letters + " " + line + "\n"
	}
	return journal
}

// toldRecovered are the most lines whose journal is a beginning of the text: of all lines that could stand there, as many as
// have one.
func toldRecovered(t string) ([]string, int) {
	var lines []string
	for _, whole := range strings.SplitAfter(t, "\n") {
		lines = append(lines, strings.TrimSuffix(whole[min(3, len(whole)):], "\n"))
	}
	for n := len(lines); n > 0; n-- {
		if journal, ok := impl.JournalOf(lines[:n]); ok && strings.HasPrefix(t, journal) {
			return lines[:n], len(journal)
		}
	}
	return nil, 0
}

// expectRecovered fails the test unless these lines are recovered from a text, with a journal of this length.
func expectRecovered(t *testing.T, text string, lines []string, length int) {
	t.Helper()
	got, n, ok := impl.RecoverJournal(text)
	if !ok || n != int64(length) || !slices.Equal(got, lines) {
		t.Errorf("%q: recovered %q of %d bytes, %v, want %q of %d", text, got, n, ok, lines, length)
	}
}

// journalLines are lists of lines for journals.
func journalLines() [][]string {
	return [][]string{nil, {""}, {"run"}, {"", ""}, {" "}, {"", "run", ""}, {"trace 5*3", "run", "best"}, {"re run"}, {"\r", "\x00", "\xff\xfe"}, {"run", "run", "run", "run"}, {"ab ", "ab  "}, {"a\rb", "\t", "trace "}, drawnScript(3, 12)}
}

func TestJournals(t *testing.T) {
	journal, ok := impl.JournalOf([]string{"run", "run"})
	expect(t, "two lines", of(journal, ok), of("re run\n"+lettersOf("rerun")+" run\n", true))
	journal, ok = impl.JournalOf([]string{""})
	expect(t, "an empty line", of(journal, ok), of("ab \n", true))
	journal, ok = impl.JournalOf(nil)
	expect(t, "no lines", of(journal, ok), of("", true))
	for _, lines := range journalLines() {
		journal, ok := impl.JournalOf(lines)
		expect(t, fmt.Sprintf("%q", lines), of(journal, ok), of(toldJournal(lines), true))
		expectRecovered(t, journal, lines, len(journal))
	}
	for _, lines := range [][]string{{"\n"}, {"run\n"}, {"\nrun"}, {"run", "be\nst"}, {"run", "best", "\n"}, {"\r\n"}} {
		journal, ok := impl.JournalOf(lines)
		expect(t, fmt.Sprintf("%q", lines), of(journal, ok), of("", false))
	}
}

// TestJournalLimit: a journal has at most MaxScript bytes.
func TestJournalLimit(t *testing.T) {
	for _, c := range []struct {
		lines []string
		ok    bool
	}{
		{[]string{strings.Repeat("x", impl.MaxScript-4)}, true},
		{[]string{strings.Repeat("x", impl.MaxScript-3)}, false},
		{[]string{strings.Repeat("x", impl.MaxScript)}, false},
		{[]string{"", strings.Repeat("x", impl.MaxScript-8)}, true},
		{[]string{"", strings.Repeat("x", impl.MaxScript-7)}, false},
		{[]string{strings.Repeat("x", impl.MaxScript-8), ""}, true},
		{[]string{strings.Repeat("x", impl.MaxScript-7), ""}, false},
		{[]string{strings.Repeat("x", 50000)}, false},
		{make([]string, impl.MaxScript/4), true},
		{make([]string, impl.MaxScript/4+1), false},
		{make([]string, 50000), false},
	} {
		journal, ok := impl.JournalOf(c.lines)
		what := fmt.Sprint(len(c.lines), " lines, the first of ", len(c.lines[0]))
		if !c.ok {
			expect(t, what, of(journal, ok), of("", false))
			continue
		}
		expect(t, what, of(len(journal), ok), of(impl.MaxScript, true))
		expectRecovered(t, journal, c.lines, len(journal))
		lines, n, ok := impl.RecoverJournal(journal + "x")
		expect(t, what, of(lines, n, ok), of([]string{}, 0, false))
	}
	lines, n, ok := impl.RecoverJournal(strings.Repeat("x", impl.MaxScript+1))
	expect(t, "too many bytes", of(lines, n, ok), of([]string{}, 0, false))
	lines, n, ok = impl.RecoverJournal("re run\n" + strings.Repeat("\n", impl.MaxScript))
	expect(t, "too many bytes", of(lines, n, ok), of([]string{}, 0, false))
	expectRecovered(t, strings.Repeat("x", impl.MaxScript), nil, 0)
	expectRecovered(t, "re run\n"+strings.Repeat("y", impl.MaxScript-7), []string{"run"}, 7)
}

// TestJournalCut: of a journal that is cut, the lines that are whole are recovered.
func TestJournalCut(t *testing.T) {
	for _, lines := range journalLines() {
		journal, _ := impl.JournalOf(lines)
		for cut := range len(journal) + 1 {
			whole := strings.Count(journal[:cut], "\n")
			expectRecovered(t, journal[:cut], lines[:whole], strings.LastIndex(journal[:cut], "\n")+1)
		}
	}
}

// TestJournalChanged: of a journal with one byte changed, the lines before it are recovered. Only where the change begins or ends
// a line, the letters could fit by chance.
func TestJournalChanged(t *testing.T) {
	for _, lines := range journalLines() {
		journal, _ := impl.JournalOf(lines)
		for at := range len(journal) {
			for b := range 256 {
				if byte(b) == journal[at] {
					continue
				}
				text := journal[:at] + string([]byte{byte(b)}) + journal[at+1:]
				before := strings.Count(journal[:at], "\n")
				kept, length := toldRecovered(text)
				expectRecovered(t, text, kept, length)
				if b != '\n' && journal[at] != '\n' && (len(kept) != before || length != strings.LastIndex(journal[:at], "\n")+1) {
					t.Errorf("%q: %d lines are recovered, want %d", text, len(kept), before)
				}
			}
		}
	}
}

// TestJournalBehind: what stands behind a journal does not matter, unless it is one more line of it.
func TestJournalBehind(t *testing.T) {
	lines := []string{"trace 5*3", "run"}
	journal := toldJournal(lines)
	for _, behind := range []string{"\n", "x", "xx", "xx\n", "  \n", "ab", "ab ", "ab \n", "ab\n", "run\n", lettersOf("best") + " best\n", journal, strings.ToUpper(journal), "\x00\n\n\n", strings.Repeat("\n", 500)} {
		expectRecovered(t, journal+behind, lines, len(journal))
	}
	letters := lettersOf(lettersOf(lettersOf("trace 5*3")+"run") + "best")
	expectRecovered(t, journal+letters+" best\n", append(lines, "best"), len(journal)+8)
	expectRecovered(t, journal+letters+" best\nxx run\n", append(lines, "best"), len(journal)+8)
	for _, near := range []string{letters + " best", letters + " best\r\n", letters + "  best\n", letters + "\tbest\n", letters + "best\n", " " + letters + " best\n", strings.ToUpper(letters) + " best\n", letters + " bes\nt\n", letters + " \n", letters + "\n", letters[:1] + "\n"} {
		expectRecovered(t, journal+near, lines, len(journal))
	}
	// These letters belong to the line alone, and those to a line with a line before it.
	expectRecovered(t, "re run\n"+"re run\n", []string{"run"}, 7)
	expectRecovered(t, toldJournal([]string{"run", "run"})[7:], nil, 0)
	expectRecovered(t, "ra run\n", nil, 0)
	expectRecovered(t, "re run\nxx", []string{"run"}, 7)
	expectRecovered(t, "", nil, 0)
}

// TestJournalOfScripts: a script whose journal is recovered does what it did.
func TestJournalOfScripts(t *testing.T) {
	b := benchWith("", "0|0")
	for seed := range uint64(20) {
		lines := drawnScript(seed+300, 30)
		journal, one := impl.JournalOf(lines)
		again, n, two := impl.RecoverJournal(journal + "xx")
		after, outputs, three := impl.RunBench(b, strings.Join(append(again, ""), "\n"))
		wanted, said, four := impl.RunBench(b, strings.Join(append(lines, ""), "\n"))
		expect(t, journal, of(n, one, two, after, outputs, three), of(len(journal), true, true, wanted, said, four))
	}
}
