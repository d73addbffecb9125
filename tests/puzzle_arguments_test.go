package tests

// Promise 11 for chapter 9: every function accepts all arguments without panicking and modifies none of them.

import (
	"math"
	"runtime"
	"slices"
	"strings"
	"testing"

	"loop.example/g01235/impl"
)

// puzzleCalls returns a call of each function of chapter 9 that takes a puzzle alone and has a last bool.
func puzzleCalls(p impl.Puzzle) []call {
	return []call{
		{"RulesThatFit", func() []any { return results(impl.RulesThatFit(p)) }},
		{"Answers", func() []any { return results(impl.Answers(p)) }},
		{"CountAnswers", func() []any { return results(impl.CountAnswers(p)) }},
		{"FirstAnswer", func() []any { return results(impl.FirstAnswer(p)) }},
		{"SureRules", func() []any { return results(impl.SureRules(p)) }},
		{"HintOf", func() []any { return results(impl.HintOf(p)) }},
		{"HarderPuzzle", func() []any { return results(impl.HarderPuzzle(p)) }},
		{"PuzzleText", func() []any { return results(impl.PuzzleText(p)) }},
	}
}

// puzzlePartCalls returns a call of each function that takes a puzzle and rules or a number.
func puzzlePartCalls(p impl.Puzzle, list []impl.Rule, n int) []call {
	return []call{
		{"IsAnswer", func() []any { return results(impl.IsAnswer(p, list)) }},
		{"ShowNumber as left", func() []any { return results(impl.ShowNumber(p, n, true)) }},
		{"ShowNumber as crossed out", func() []any { return results(impl.ShowNumber(p, n, false)) }},
		{"HideNumber", func() []any { return results(impl.HideNumber(p, n)) }},
	}
}

// allPuzzleCalls returns a call of each function that takes a puzzle, with the rule 2:0 and the number 1.
func allPuzzleCalls(p impl.Puzzle) []call {
	return append(puzzleCalls(p), puzzlePartCalls(p, rules(2, 0), 1)...)
}

// textCalls returns a call of each function of chapter 9 that takes a text.
func textCalls(text string) []call {
	return []call{
		{"FewestRules", func() []any { return results(impl.FewestRules(text)) }},
		{"ParsePuzzle", func() []any { return results(impl.ParsePuzzle(text)) }},
	}
}

// ruleListCalls returns calls of the functions of chapter 9 that take rules.
func ruleListCalls(list []impl.Rule) []call {
	var calls []call
	for _, p := range []impl.Puzzle{{Pattern: "ooo"}, {Pattern: "oxoxox", Rules: 1}, {Pattern: "oxxxox", Rules: 2}, {Pattern: signs("?"), Rules: 3}, {Pattern: "", Rules: 1}} {
		calls = append(calls, call{"IsAnswer", func() []any { return results(impl.IsAnswer(p, list)) }})
	}
	for _, most := range []int{0, 1, 6, impl.MaxPattern, impl.MaxPattern + 1} {
		calls = append(calls, call{"PatternOf", func() []any { return results(impl.PatternOf(list, most)) }})
	}
	return calls
}

// numberedPuzzleCalls returns a call of each function of chapter 9 that takes a number, with everything else valid.
func numberedPuzzleCalls(n int) []call {
	return []call{
		{"PatternOf", func() []any { return results(impl.PatternOf(rules(2, 0, 11, 1), n)) }},
		{"ShowNumber as left", func() []any { return results(impl.ShowNumber(impl.Puzzle{Pattern: signs("?"), Rules: 3}, n, true)) }},
		{"ShowNumber as crossed out", func() []any { return results(impl.ShowNumber(impl.Puzzle{Pattern: signs("?")}, n, false)) }},
		{"ShowNumber of six", func() []any { return results(impl.ShowNumber(impl.Puzzle{Pattern: "??????", Rules: 2}, n, true)) }},
		{"HideNumber", func() []any { return results(impl.HideNumber(impl.Puzzle{Pattern: signs("ox"), Rules: 1}, n)) }},
		{"HideNumber of one", func() []any { return results(impl.HideNumber(impl.Puzzle{Pattern: "o"}, n)) }},
		{"MakePuzzle up to", func() []any { return results(impl.MakePuzzle(n, 3, mostSeed)) }},
		{"MakePuzzle with so many rules", func() []any { return results(impl.MakePuzzle(impl.MaxPattern, n, 1)) }},
		{"MakePuzzle of a seed", func() []any { return results(impl.MakePuzzle(12, 1, n)) }},
		{"PuzzleText", func() []any { return results(impl.PuzzleText(impl.Puzzle{Pattern: "ox?", Rules: n})) }},
		{"RulesThatFit", func() []any { return results(impl.RulesThatFit(impl.Puzzle{Pattern: "ox?", Rules: n})) }},
		{"HintOf", func() []any { return results(impl.HintOf(impl.Puzzle{Pattern: "ooooooooox", Rules: n})) }},
		{"IsAnswer", func() []any { return results(impl.IsAnswer(impl.Puzzle{Pattern: "ox?", Rules: n}, rules(2, 0))) }},
		{"CountAnswers", func() []any { return results(impl.CountAnswers(impl.Puzzle{Pattern: signs("xo"), Rules: n})) }},
	}
}

// puzzleEdges are the least and the greatest valid number of each of these.
func puzzleEdges() map[string][2]int {
	return withEdges(numberedPuzzleCalls(0), map[string][2]int{
		"PatternOf": {1, impl.MaxPattern}, "ShowNumber as left": {1, impl.MaxPattern}, "ShowNumber as crossed out": {1, impl.MaxPattern}, "ShowNumber of six": {1, 6},
		"HideNumber": {1, impl.MaxPattern}, "HideNumber of one": {1, 1}, "MakePuzzle up to": {1, impl.MaxPattern}, "MakePuzzle of a seed": {0, mostSeed},
	}, 0, mostRules)
}

// numbersOfPuzzles are the numbers at the limits of all functions, and others far within and far behind them.
func numbersOfPuzzles() []int {
	return append(wrongForAll(), 0, 1, 2, 3, 4, 5, 6, 7, 10, 12, 47, impl.MaxPattern, impl.MaxPattern+1, 64, 65, 255, 256, 257, 3342, 9998, mostSeed, mostSeed+1, 10006, 10007, 10008, 20006)
}

// noPuzzles are puzzles with a pattern that is none, with a wrong number of rules, and with both.
func noPuzzles() []impl.Puzzle {
	puzzles := []impl.Puzzle{{}}
	for _, pattern := range noSignPatterns() {
		for _, count := range []int{0, 1, mostRules, -1, mostRules + 1, math.MinInt, math.MaxInt} {
			puzzles = append(puzzles, impl.Puzzle{Pattern: pattern, Rules: count})
		}
	}
	for _, count := range noCounts() {
		for _, pattern := range []string{"o", "x", "?", "ooo", "oxoxox", "ox?xox", signs("o"), signs("x"), signs("?")} {
			puzzles = append(puzzles, impl.Puzzle{Pattern: pattern, Rules: count})
		}
	}
	return puzzles
}

func TestNoPuzzles(t *testing.T) {
	for _, p := range noPuzzles() {
		if impl.IsPuzzle(p) {
			t.Error("this is a puzzle:", p)
		}
		calls := puzzleCalls(p)
		for _, n := range []int{0, 1, 2, 3} {
			calls = append(calls, puzzlePartCalls(p, rules(2, 0), n)...)
		}
		for _, c := range append(calls, puzzlePartCalls(p, nil, 1)...) {
			wantZeros(t, c.name, wantNoPanic(t, c))
		}
	}
}

func TestNoPatterns(t *testing.T) {
	for _, text := range noSignPatterns() {
		for _, c := range textCalls(text) {
			if puzzleTexts.MatchString(text) && c.name == "ParsePuzzle" {
				continue
			}
			wantZeros(t, c.name, wantNoPanic(t, c))
		}
	}
}

// TestWrongRulesOfPuzzles has lists that are no rules, with puzzles of each number of rules.
func TestWrongRulesOfPuzzles(t *testing.T) {
	for _, list := range wrongRules() {
		for _, p := range shortPuzzles(2) {
			is, ok := impl.IsAnswer(p, list)
			wantFail(t, nameOf("IsAnswer", p), is, ok)
		}
		for _, most := range []int{0, 1, 6, impl.MaxPattern, impl.MaxPattern + 1} {
			pattern, ok := impl.PatternOf(list, most)
			wantFail(t, of("PatternOf no rules", most), pattern, ok)
		}
	}
}

func TestEdgesOfPuzzles(t *testing.T) {
	wantEdges(t, numberedPuzzleCalls, puzzleEdges())
}

// TestLimitsOfPuzzles has that a call succeeds exactly within the limits.
func TestLimitsOfPuzzles(t *testing.T) {
	wantLimits(t, numberedPuzzleCalls, puzzleEdges(), numbersOfPuzzles())
}

// TestAllArgumentsOfPuzzles calls every function with all that is at hand.
func TestAllArgumentsOfPuzzles(t *testing.T) {
	lists := [][]impl.Rule{nil, {}, rules(2, 0), rules(2, 1, 2, 0), rules(60, 59), nothingLeft(), manyRules(impl.MaxRules, impl.Rule{Every: 10}), manyRules(impl.MaxRules+1, impl.Rule{Every: 2}), rules(1, 0), rules(math.MinInt, math.MaxInt), rules(2, 0, math.MaxInt, math.MinInt)}
	for _, p := range slices.Concat(noPuzzles(), knownPuzzles(t), somePuzzles(50, 161)) {
		calls := puzzleCalls(p)
		for i, n := range numbersOfPuzzles() {
			calls = append(calls, puzzlePartCalls(p, lists[i%len(lists)], n)...)
		}
		for _, c := range calls {
			wantTotal(t, c)
		}
	}
	for _, most := range numbersOfPuzzles() {
		for _, list := range append(lists, wrongRules()...) {
			wantTotal(t, call{of("PatternOf", most), func() []any { return results(impl.PatternOf(list, most)) }})
		}
		for _, count := range numbersOfPuzzles() {
			for _, seed := range numbersOfPuzzles() {
				wantTotal(t, call{"MakePuzzle of " + wordsOf([]int{most, count, seed}), func() []any { return results(impl.MakePuzzle(most, count, seed)) }})
			}
		}
	}
}

func TestAllTextsOfPuzzles(t *testing.T) {
	texts := []string{"\x00", "\xff\xfe", "ox:\xc3", strings.Repeat("ox:1", 1<<18), strings.Repeat("o", 1<<20) + ":1", "ox:" + strings.Repeat("9", 1<<20), "ox:" + strings.Repeat("0", 1<<20), strings.Repeat(":", 1<<20), "ox:" + strings.Repeat(":", 1<<20)}
	for _, text := range append(texts, noSignPatterns()...) {
		for _, c := range textCalls(text) {
			wantTotal(t, c)
		}
	}
	for _, text := range texts {
		p, ok := impl.ParsePuzzle(text)
		wantFail(t, "ParsePuzzle", p, ok)
	}
}

func TestRulesOfPuzzlesStay(t *testing.T) {
	lists := append(sharingLists(), rules(2, 0, 3, 0), rules(3, 0, 2, 0), rules(2, 0, 2, 1, 3, 0), rules(10, 9), rules(11, 0), manyRules(impl.MaxRules+1, impl.Rule{Every: 2}), rules(2, 0, 1, 0))
	for _, list := range lists {
		wantResultsStay(t, list, impl.Rule{Every: 2}, ruleListCalls)
		for _, behind := range rules(2, 0, 2, 1, 3, 0, 10, 9, 60, 59, 0, 0, 0, -5) {
			wantArgumentStays(t, list, behind, ruleListCalls)
			wantSpareUnread(t, list, behind, ruleListCalls)
		}
	}
}

// TestPuzzlesAreNew spoils what was returned, with all room behind it, and calls again.
func TestPuzzlesAreNew(t *testing.T) {
	for _, p := range slices.Concat(knownPuzzles(t), shortPuzzles(2), somePuzzles(60, 162)) {
		for _, c := range allPuzzleCalls(p) {
			wantNewResults(t, c)
		}
	}
}

// TestAnswersAreApart has that no two answers share memory, also not the room behind them, and that nothing else is another call's.
func TestAnswersAreApart(t *testing.T) {
	for _, p := range slices.Concat(knownPuzzles(t), shortPuzzles(2), somePuzzles(100, 163)) {
		answers, ok := impl.Answers(p)
		first, _ := impl.FirstAnswer(p)
		sure, _ := impl.SureRules(p)
		fits, _ := impl.RulesThatFit(p)
		again, fine := impl.Answers(p)
		if ok != fine {
			t.Fatal(nameOf("Answers", p), "succeeds once")
		}
		wantRuleListsApart(t, nameOf("Answers", p), slices.Concat(answers, again, [][]impl.Rule{first, sure, fits}))
	}
}

// TestAnswersAreDone checks that no goroutine is still there some time after the calls: after those that look at all answers, and those that stop at one, at two and at too many.
func TestAnswersAreDone(t *testing.T) {
	before := runtime.NumGoroutine()
	for _, p := range slices.Concat(noPuzzles()[:50], knownPuzzles(t), shortPuzzles(3), somePuzzles(100, 164)) {
		for _, c := range append(allPuzzleCalls(p), textCalls(p.Pattern)...) {
			wantTotal(t, c)
		}
	}
	wantNoMoreGoroutines(t, before)
}

// TestSearchesAreJoined looks for goroutines at once behind calls that stop their search. As all run on one thread, a search that is waited for is gone then, unless the thread is taken from it just behind its last step; this may be so for half of the calls.
func TestSearchesAreJoined(t *testing.T) {
	defer runtime.GOMAXPROCS(runtime.GOMAXPROCS(1))
	before := runtime.NumGoroutine()
	calls, left := 0, 0
	for _, text := range tooManyAnswers() {
		p := puzzle(t, text)
		for _, c := range []call{
			{"Answers", func() []any { return results(impl.Answers(p)) }},
			{"FewestRules", func() []any { return results(impl.FewestRules(p.Pattern)) }},
			{"HarderPuzzle", func() []any { return results(impl.HarderPuzzle(p)) }},
		} {
			c.run()
			calls++
			if runtime.NumGoroutine() > before {
				left++
			}
		}
	}
	if 2*left > calls {
		t.Error("searches go on behind so many calls:", left, "of", calls)
	}
}
