package tests

// Promise 11 for chapter 10: every function accepts all arguments without panicking and modifies none of them.

import (
	"math"
	"math/rand"
	"slices"
	"strconv"
	"strings"
	"testing"

	"loop.example/g01235/impl"
)

// linesOfAllKinds are lines with an effect, without one, and such that fail, also where they leave the rules as they are.
func linesOfAllKinds() []string {
	lines := []string{"", "fly", "rules -", "rules 2:0", "rules x", "add -", "add 60:59", "add " + twelve, "add x", "drop 0", "drop 1", "drop 11", "drop 12", "drop 999999", "most 0", "most 600", "most 601", "move 0", "move 1", "move 600", "move 601", "primes 0", "primes 12", "primes 13", "rank 0", "rank 999999", "pattern 0", "pattern 48", "pi 10001", "answer x", "answer ooo:0", "answer ?:3", "factors 0", "factors 1"}
	for line := range ordinaryLines() {
		lines = append(lines, line)
	}
	slices.Sort(lines)
	return slices.Compact(lines)
}

// lineCalls returns a call of DeskLine for each of these lines.
func lineCalls(d impl.Desk) []call {
	var calls []call
	for _, line := range linesOfAllKinds() {
		calls = append(calls, call{"DeskLine of " + line, func() []any { return results(impl.DeskLine(d, line)) }})
	}
	return calls
}

// deskRulesCalls returns a call of each function of chapter 10 that takes a desk, with rules and the Most 30.
func deskRulesCalls(list []impl.Rule) []call {
	d := impl.Desk{Rules: list, Most: 30}
	return append(lineCalls(d), call{"IsDesk", func() []any { return results(impl.IsDesk(d)) }})
}

// scriptCalls returns a call of each function of chapter 10 that takes a script.
func scriptCalls(s string) []call {
	return []call{
		{"RunScript", func() []any { return results(impl.RunScript(s)) }},
		{"DeskAfter", func() []any { return results(impl.DeskAfter(s)) }},
		{"FailedLines", func() []any { return results(impl.FailedLines(s)) }},
	}
}

// noDesks are desks with rules that are none, with a wrong Most, and with both.
func noDesks() []impl.Desk {
	var desks []impl.Desk
	for _, most := range []int{-1, -2, impl.MaxNumber + 1, -impl.MaxNumber, 1 << 32, -1 << 32, math.MinInt, math.MinInt + 1, math.MaxInt, math.MaxInt - 1} {
		for _, list := range [][]impl.Rule{nil, {}, rules(2, 0, 3, 0), nothingLeft(), manyRules(impl.MaxRules, impl.Rule{Every: 60, Rest: 59}), rules(1, 0)} {
			desks = append(desks, impl.Desk{Rules: list, Most: most})
		}
	}
	for _, list := range wrongRules() {
		for _, most := range []int{0, 30, impl.MaxNumber, -1} {
			desks = append(desks, impl.Desk{Rules: list, Most: most})
		}
	}
	return desks
}

func TestNoDesksGiveZeros(t *testing.T) {
	for _, d := range noDesks() {
		values := wantNoPanic(t, call{"IsDesk", func() []any { return results(impl.IsDesk(d)) }})
		if len(values) != 1 || values[0] != false {
			t.Error("this is a desk:", d)
		}
		for _, c := range lineCalls(d) {
			wantZeros(t, c.name, wantNoPanic(t, c))
		}
	}
}

// TestMostsOfDesks has that a line succeeds exactly within the limits of Most.
func TestMostsOfDesks(t *testing.T) {
	calls := func(n int) []call { return lineCalls(impl.Desk{Rules: rules(2, 0, 3, 0), Most: n}) }
	edges := withEdges(calls(0), map[string][2]int{}, 0, impl.MaxNumber)
	wantEdges(t, calls, edges)
	wantLimits(t, calls, edges, append(wrongForAll(), 0, 1, 30, 255, 256, 599, 600, 601, 602, 999999))
}

// TestEdgesOfRules has that a line succeeds exactly at rules, with all numbers of one rule near the limits.
func TestEdgesOfRules(t *testing.T) {
	for _, every := range []int{math.MinInt, -60, -2, -1, 0, 1, 2, 3, 59, 60, 61, 1 << 32, math.MaxInt} {
		for _, rest := range []int{math.MinInt, -60, -1, 0, 1, 2, 58, 59, 60, every - 1, every, every + 1, math.MaxInt} {
			for _, list := range [][]impl.Rule{rules(every, rest), rules(2, 0, every, rest), rules(every, rest, 2, 0)} {
				want := impl.AreRules(list)
				for _, c := range deskRulesCalls(list) {
					values := wantNoPanic(t, c)
					if len(values) == 0 || values[len(values)-1] != want {
						t.Error(c.name, "at", list, "is", values)
					}
					if !want {
						wantZeros(t, c.name, values)
					}
				}
			}
		}
	}
}

func TestTooManyRulesOfDesks(t *testing.T) {
	for count, want := range map[int]bool{0: true, impl.MaxRules - 1: true, impl.MaxRules: true, impl.MaxRules + 1: false, impl.MaxRules + 2: false, 100: false, 1 << 16: false} {
		for _, r := range rules(2, 0, 60, 59, 7, 3) {
			for _, c := range deskRulesCalls(manyRules(count, r)) {
				if values := wantNoPanic(t, c); len(values) == 0 || values[len(values)-1] != want {
					t.Error(of(c.name+" at so many rules", count), "is", values)
				}
			}
		}
	}
}

// noScripts are texts that are no scripts, in each way and in all ways together.
func noScripts() []string {
	return []string{
		"x", "show", "\nshow", "show\nshow", "\x00", "\xff", "\n\x00", "\n\xff", " ", "\r", "\n ", strings.Repeat("\n", impl.MaxLines) + "x", strings.Repeat("\n", impl.MaxLines+1), strings.Repeat("show\n", impl.MaxLines+1), strings.Repeat("\n", impl.MaxScript), strings.Repeat("\n", impl.MaxScript+1), strings.Repeat("x", impl.MaxScript), strings.Repeat("x", impl.MaxScript) + "\n",
		strings.Repeat("x", 1<<20), strings.Repeat("\n", 1<<20), strings.Repeat("show\n", 1<<18), strings.Repeat("\xff\n", 1<<18), strings.Repeat(" ", 1<<20) + "\n",
	}
}

func TestNoScriptsGiveZeros(t *testing.T) {
	for _, s := range noScripts() {
		for _, c := range scriptCalls(s) {
			wantZeros(t, c.name, wantNoPanic(t, c))
		}
	}
}

// TestAllArgumentsOfConsole calls DeskLine with all desks and lines that are at hand.
func TestAllArgumentsOfConsole(t *testing.T) {
	lines := append(noScripts(), someLines(150, 191)...)
	for _, text := range slices.Concat(noNumberWords(), noRulesWords(), noPuzzleWords()) {
		lines = append(lines, "most "+text, "add "+text, "answer "+text, text)
	}
	for _, d := range append(noDesks()[50:80], someDesks(20, 192)...) {
		for _, line := range lines {
			wantTotal(t, call{nameOfLine(d, line), func() []any { return results(impl.DeskLine(d, line)) }})
		}
	}
}

// someBytes returns so many bytes, of which one in so many is a newline.
func someBytes(random *rand.Rand, count int, oneIn int) string {
	text := make([]byte, count)
	for i := range text {
		text[i] = byte(random.Intn(256))
		if text[i] == '\n' || random.Intn(oneIn) == 0 {
			text[i] = '\n'
		}
	}
	return string(text)
}

// TestAnyBytes has lines and scripts of any bytes, also of none that are a text.
func TestAnyBytes(t *testing.T) {
	random := rand.New(rand.NewSource(193))
	words := []string{"", "rules ", "add ", "most ", "answer ", "factors ", "show "}
	for i := range 3000 {
		line := words[i%len(words)] + strings.ReplaceAll(someBytes(random, random.Intn(1+i%300), 1000), "\n", "\xfe")
		_, reply, ok := impl.DeskLine(impl.FirstDesk(), line)
		if !ok || reply != "no" && reply != "what" {
			t.Errorf("the reply to %q is %q %v", line, reply, ok)
		}
		replies, ok := impl.RunScript(line + "\n")
		wantValue(t, "RunScript of "+strconv.Quote(line), replies, ok, []string{reply})
		script := someBytes(random, random.Intn(impl.MaxScript), 60) + "\n"
		count := strings.Count(script, "\n")
		for _, c := range scriptCalls(script) {
			values := wantNoPanic(t, c)
			if len(values) != 2 || values[1] != (count <= impl.MaxLines) {
				t.Errorf("%s of %q is %v", c.name, script, values)
			}
		}
		if numbers, ok := impl.FailedLines(script); ok {
			wantValue(t, "FailedLines of any bytes", numbers, ok, upTo(1, count))
		}
	}
}

func TestRulesOfDesksStay(t *testing.T) {
	lists := append(sharingLists(), rules(2, 0, 3, 0), rules(3, 0, 2, 0, 4, 1), readRules(t, tooLong), readRules(t, twelve), manyRules(impl.MaxRules-1, impl.Rule{Every: 60, Rest: 59}), manyRules(impl.MaxRules+1, impl.Rule{Every: 2}), rules(2, 0, 1, 0))
	for _, list := range lists {
		wantResultsStay(t, list, impl.Rule{Every: 2}, deskRulesCalls)
		for _, behind := range rules(2, 0, 2, 1, 5, 4, 60, 59, 0, 0, 0, -5) {
			wantArgumentStays(t, list, behind, deskRulesCalls)
			wantSpareUnread(t, list, behind, deskRulesCalls)
		}
	}
}

// TestDesksAreNew spoils what was returned, with all room behind it, and calls again.
func TestDesksAreNew(t *testing.T) {
	wantNewResults(t, call{"FirstDesk", func() []any { return results(impl.FirstDesk()) }})
	for _, d := range append(someDesks(50, 194), impl.FirstDesk(), deskOf(t, "-", 0), deskOf(t, twelve, 600)) {
		for _, c := range lineCalls(d) {
			wantNewResults(t, c)
		}
	}
	scripts := append(someScripts(50, 195), "", "\n", "show\n", "fly\nmost 601\ndrop 7\n", "rules "+twelve+"\nadd -\n")
	for _, s := range scripts {
		for _, c := range scriptCalls(s) {
			wantNewResults(t, c)
		}
	}
}

// TestDesksAreApart has that the rules of desks of different calls share no memory, nor those of the argument, also where a line changes nothing.
func TestDesksAreApart(t *testing.T) {
	for _, d := range append(someDesks(50, 196), impl.FirstDesk(), deskOf(t, twelve, 600)) {
		for _, line := range linesOfAllKinds() {
			own := impl.Desk{Rules: slices.Grow(slices.Clone(d.Rules), 20), Most: d.Most}
			behind, _, ok := impl.DeskLine(own, line)
			again, _, fine := impl.DeskLine(own, line)
			further, _, finest := impl.DeskLine(behind, line)
			if !ok || !fine || !finest {
				t.Fatal(nameOfLine(d, line), "fails")
			}
			wantRuleListsApart(t, nameOfLine(d, line), [][]impl.Rule{own.Rules, behind.Rules, again.Rules, further.Rules})
		}
	}
	for _, line := range linesOfAllKinds() {
		first, second := impl.FirstDesk(), impl.FirstDesk()
		behind, ok := impl.DeskAfter(line + "\n")
		again, fine := impl.DeskAfter(line + "\n")
		none, finest := impl.DeskAfter("")
		if !ok || !fine || !finest {
			t.Fatal("DeskAfter", line, "fails")
		}
		wantRuleListsApart(t, "DeskAfter "+line, [][]impl.Rule{first.Rules, second.Rules, behind.Rules, again.Rules, none.Rules})
	}
}
