package tests

// Promise 9 for many puzzles: each function does what its description says in the plainest words, and functions agree with each other.

import (
	"math/rand"
	"regexp"
	"slices"
	"strings"
	"testing"

	"loop.example/g01235/impl"
)

// orderedRules returns all rules with an Every of at most MaxEvery, in order.
func orderedRules() []impl.Rule {
	var list []impl.Rule
	for every := 2; every <= impl.MaxEvery; every++ {
		for rest := range every {
			list = append(list, impl.Rule{Every: every, Rest: rest})
		}
	}
	return list
}

// choicesFrom returns all lists of so many of some rules, each with the rules in their order here, the lists in order.
func choicesFrom(list []impl.Rule, count int) [][]impl.Rule {
	if count == 0 {
		return [][]impl.Rule{nil}
	}
	var choices [][]impl.Rule
	for k, r := range list {
		for _, behind := range choicesFrom(list[k+1:], count-1) {
			choices = append(choices, append([]impl.Rule{r}, behind...))
		}
	}
	return choices
}

// allChoices returns all lists of each number of rules that a puzzle may have.
func allChoices() [mostRules + 1][][]impl.Rule {
	var choices [mostRules + 1][][]impl.Rule
	for count := range choices {
		choices[count] = choicesFrom(orderedRules(), count)
	}
	return choices
}

// plainPattern returns the signs of all numbers up to most.
func plainPattern(list []impl.Rule, most int) string {
	var pattern strings.Builder
	for n := 1; n <= most; n++ {
		if crossedOut(list, n) {
			pattern.WriteByte('x')
		} else {
			pattern.WriteByte('o')
		}
	}
	return pattern.String()
}

// leavesSigns reports whether rules leave each number with an o, and none with an x.
func leavesSigns(list []impl.Rule, pattern string) bool {
	for i, sign := range pattern {
		crossed := crossedOut(list, i+1)
		if sign == 'o' && crossed || sign == 'x' && !crossed {
			return false
		}
	}
	return true
}

// plainFits returns all rules that cross out no number with an o.
func plainFits(pattern string) []impl.Rule {
	left := strings.ReplaceAll(pattern, "x", "?")
	return slices.DeleteFunc(orderedRules(), func(r impl.Rule) bool { return !leavesSigns([]impl.Rule{r}, left) })
}

// plainAnswers looks for answers among all choices.
func plainAnswers(choices [][]impl.Rule, pattern string) [][]impl.Rule {
	var answers [][]impl.Rule
	for _, list := range choices {
		if leavesSigns(list, pattern) {
			answers = append(answers, list)
		}
	}
	return answers
}

// withHidden returns a pattern with some signs hidden, one in so many.
func withHidden(random *rand.Rand, pattern string, oneIn int) string {
	hidden := []byte(pattern)
	for i := range hidden {
		if random.Intn(oneIn) == 0 {
			hidden[i] = '?'
		}
	}
	return string(hidden)
}

// somePuzzles returns puzzles, the same ones for each run: most of them with an answer, some with another number of rules, or with a wrong sign.
func somePuzzles(count int, seed int64) []impl.Puzzle {
	random := rand.New(rand.NewSource(seed))
	all := orderedRules()
	puzzles := make([]impl.Puzzle, count)
	for i := range puzzles {
		var list []impl.Rule
		for range random.Intn(mostRules + 1) {
			list = append(list, all[random.Intn(len(all))])
		}
		pattern := plainPattern(list, 1+random.Intn(impl.MaxPattern))
		if random.Intn(6) == 0 {
			at := random.Intn(len(pattern))
			pattern = pattern[:at] + "x" + pattern[at+1:]
		}
		puzzles[i] = impl.Puzzle{Pattern: withHidden(random, pattern, 1+random.Intn(8)), Rules: len(list)}
		if random.Intn(4) == 0 {
			puzzles[i].Rules = random.Intn(mostRules + 1)
		}
	}
	return puzzles
}

// shortPuzzles returns all puzzles with patterns of at most so many signs.
func shortPuzzles(most int) []impl.Puzzle {
	var puzzles []impl.Puzzle
	patterns := []string{""}
	for range most {
		var longer []string
		for _, pattern := range patterns {
			longer = append(longer, pattern+"o", pattern+"x", pattern+"?")
		}
		patterns = longer
		for _, pattern := range patterns {
			for count := range mostRules + 1 {
				puzzles = append(puzzles, impl.Puzzle{Pattern: pattern, Rules: count})
			}
		}
	}
	return puzzles
}

// knownPuzzles returns all puzzles of the other tests, with a number of answers that is known.
func knownPuzzles(t *testing.T) []impl.Puzzle {
	t.Helper()
	var puzzles []impl.Puzzle
	for _, c := range knownAnswers() {
		puzzles = append(puzzles, puzzle(t, c.puzzle))
	}
	for _, c := range knownMany() {
		puzzles = append(puzzles, puzzle(t, c.puzzle))
	}
	for _, text := range tooManyAnswers() {
		puzzles = append(puzzles, puzzle(t, text))
	}
	return puzzles
}

// nameOf returns what a call with a puzzle is called.
func nameOf(function string, p impl.Puzzle) string { return of(function+" of "+p.Pattern, p.Rules) }

// isInEach reports whether a rule is in all lists.
func isInEach(r impl.Rule, lists [][]impl.Rule) bool {
	return !slices.ContainsFunc(lists, func(list []impl.Rule) bool { return !slices.Contains(list, r) })
}

// wantAnswers checks all functions that look for answers, with all answers that there are.
func wantAnswers(t *testing.T, p impl.Puzzle, want [][]impl.Rule) {
	t.Helper()
	answers, ok := impl.Answers(p)
	count, countOK := impl.CountAnswers(p)
	first, firstOK := impl.FirstAnswer(p)
	sure, sureOK := impl.SureRules(p)
	if len(want) > impl.MaxAnswers {
		wantFail(t, nameOf("Answers", p), answers, ok)
		wantFail(t, nameOf("CountAnswers", p), count, countOK)
	} else if wantValue(t, nameOf("CountAnswers", p), count, countOK, len(want)); !ok || !slices.EqualFunc(answers, want, slices.Equal) {
		t.Error(nameOf("Answers", p), "is", answers, ok, "want", want)
	}
	if len(want) > impl.MaxAnswers || len(want) == 0 {
		wantFail(t, nameOf("FirstAnswer", p), first, firstOK)
		wantFail(t, nameOf("SureRules", p), sure, sureOK)
		return
	}
	wantValue(t, nameOf("FirstAnswer", p), first, firstOK, want[0])
	wantSure := slices.DeleteFunc(orderedRules(), func(r impl.Rule) bool { return !isInEach(r, want) })
	wantValue(t, nameOf("SureRules", p), sure, sureOK, wantSure)
}

// TestAnswersArePlain has all patterns of up to four signs, and others up to MaxPattern signs.
func TestAnswersArePlain(t *testing.T) {
	choices := allChoices()
	if len(choices[0]) != 1 || len(choices[1]) != 54 || len(choices[2]) != 1431 || len(choices[3]) != 24804 {
		t.Fatal("the test has not all rules")
	}
	found := map[int]int{}
	for _, p := range slices.Concat(shortPuzzles(4), knownPuzzles(t), somePuzzles(600, 141)) {
		want := plainAnswers(choices[p.Rules], p.Pattern)
		wantAnswers(t, p, want)
		found[min(len(want), impl.MaxAnswers+1)]++
	}
	if found[0] < 100 || found[1] < 100 || found[2] < 5 || found[impl.MaxAnswers] < 4 || found[impl.MaxAnswers+1] < 100 {
		t.Error("the test has too few puzzles of a kind:", found)
	}
}

func TestRulesThatFitArePlain(t *testing.T) {
	for _, p := range slices.Concat(shortPuzzles(5), knownPuzzles(t), somePuzzles(1000, 142)) {
		got, ok := impl.RulesThatFit(p)
		wantValue(t, nameOf("RulesThatFit", p), got, ok, plainFits(p.Pattern))
	}
}

// TestAnswersAreAnswers has each list of RulesThatFit with IsAnswer: just those of Answers are answers.
func TestAnswersAreAnswers(t *testing.T) {
	looked := 0
	for _, p := range append(knownPuzzles(t), somePuzzles(150, 143)...) {
		answers, ok := impl.Answers(p)
		if !ok {
			continue
		}
		looked++
		fits, _ := impl.RulesThatFit(p)
		var found [][]impl.Rule
		for _, list := range choicesFrom(fits, p.Rules) {
			is, ok := impl.IsAnswer(p, list)
			if !ok {
				t.Error(nameOf("IsAnswer", p), "fails", list)
			}
			if is {
				found = append(found, list)
			}
		}
		if !slices.EqualFunc(answers, found, slices.Equal) {
			t.Error(nameOf("Answers", p), "is", answers, "but these are answers:", found)
		}
	}
	if looked < 100 {
		t.Error("the test has too few puzzles:", looked)
	}
}

// isPlainAnswer has rules as in chapter 1.
func isPlainAnswer(p impl.Puzzle, list []impl.Rule) bool {
	for k, r := range list {
		if r.Every > impl.MaxEvery || k > 0 && (list[k-1].Every > r.Every || list[k-1].Every == r.Every && list[k-1].Rest >= r.Rest) {
			return false
		}
	}
	return len(list) == p.Rules && leavesSigns(list, p.Pattern)
}

// nearAnswers returns a list, and others that differ from it: in their order, with a rule less, more or twice, or with another rule, which may have an Every of more than MaxEvery.
func nearAnswers(random *rand.Rand, list []impl.Rule) [][]impl.Rule {
	lists := [][]impl.Rule{list, append(slices.Clone(list), impl.Rule{Every: 10, Rest: 9}), append(slices.Clone(list), impl.Rule{Every: 60, Rest: 59}), append(rules(2, 0), list...)}
	for k, r := range list {
		turned := slices.Clone(list)
		turned[k], turned[0] = turned[0], turned[k]
		other := slices.Clone(list)
		other[k] = impl.Rule{Every: 2 * r.Every, Rest: r.Rest + r.Every*random.Intn(2)}
		another := slices.Clone(list)
		another[k] = orderedRules()[random.Intn(54)]
		lists = append(lists, turned, other, another, without(list, k), slices.Insert(slices.Clone(list), k, r), slices.Repeat([]impl.Rule{r}, len(list)))
	}
	return lists
}

func TestIsAnswerIsPlain(t *testing.T) {
	random := rand.New(rand.NewSource(144))
	found := map[bool]int{}
	for _, p := range append(knownPuzzles(t), somePuzzles(500, 145)...) {
		answers, _ := impl.Answers(p)
		lists := [][]impl.Rule{nil, manyRules(p.Rules, impl.Rule{Every: 10, Rest: 9})}
		for _, list := range append(answers[:min(len(answers), 20)], someRules(5, 146)...) {
			lists = append(lists, nearAnswers(random, list)...)
		}
		for _, list := range lists {
			if len(list) > impl.MaxRules || !impl.AreRules(list) {
				continue
			}
			want := isPlainAnswer(p, list)
			found[want]++
			got, ok := impl.IsAnswer(p, list)
			if !ok || got != want {
				t.Error(nameOf("IsAnswer", p), list, "is", got, ok, "want", want)
			}
		}
	}
	if found[true] < 1000 || found[false] < 1000 {
		t.Error("the test has too few lists of a kind:", found)
	}
}

// TestAnswersAreInOrder has that each rule is greater than the one before, and each answer than the one before.
func TestAnswersAreInOrder(t *testing.T) {
	compare := func(a impl.Rule, b impl.Rule) int { return 100*(a.Every-b.Every) + a.Rest - b.Rest }
	for _, p := range append(knownPuzzles(t), somePuzzles(300, 147)...) {
		answers, _ := impl.Answers(p)
		for i, list := range answers {
			for k := 1; k < len(list); k++ {
				if compare(list[k-1], list[k]) >= 0 {
					t.Error(nameOf("Answers", p), "has rules that are not ordered:", list)
				}
			}
			if i > 0 && slices.CompareFunc(answers[i-1], list, compare) >= 0 {
				t.Error(nameOf("Answers", p), "is not ordered:", answers[i-1], list)
			}
		}
	}
}

// TestAnswersLeavePatterns has that an answer's own pattern is the puzzle's, but for numbers that are not shown.
func TestAnswersLeavePatterns(t *testing.T) {
	for _, p := range append(knownPuzzles(t), somePuzzles(300, 148)...) {
		answers, _ := impl.Answers(p)
		for _, list := range answers {
			pattern, ok := impl.PatternOf(list, len(p.Pattern))
			if !ok || len(pattern) != len(p.Pattern) || len(list) != p.Rules {
				t.Fatal("PatternOf", list, "is", pattern, ok)
			}
			for i := range len(pattern) {
				if p.Pattern[i] != '?' && p.Pattern[i] != pattern[i] {
					t.Error(nameOf("Answers", p), "leaves", pattern, "by", list)
				}
			}
		}
	}
}

// TestFewestRulesArePlain has patterns with more answers than MaxAnswers, too.
func TestFewestRulesArePlain(t *testing.T) {
	choices := allChoices()
	for _, p := range slices.Concat(shortPuzzles(4), knownPuzzles(t), somePuzzles(500, 149)) {
		got, ok := impl.FewestRules(p.Pattern)
		fewest := 0
		for fewest <= mostRules && len(plainAnswers(choices[fewest], p.Pattern)) == 0 {
			fewest++
		}
		if fewest > mostRules {
			wantFail(t, "FewestRules of "+p.Pattern, got, ok)
		} else {
			wantValue(t, "FewestRules of "+p.Pattern, got, ok, fewest)
		}
	}
}

// TestFewestRulesAgree has FewestRules with FirstAnswer at this number and at fewer ones.
func TestFewestRulesAgree(t *testing.T) {
	for _, p := range slices.Concat(shortPuzzles(4), knownPuzzles(t), somePuzzles(500, 150)) {
		fewest, ok := impl.FewestRules(p.Pattern)
		if !ok {
			fewest = mostRules + 1
		}
		for count := range fewest {
			first, fine := impl.FirstAnswer(impl.Puzzle{Pattern: p.Pattern, Rules: count})
			wantFail(t, of("FirstAnswer with too few rules of "+p.Pattern, count), first, fine)
			number, fine := impl.CountAnswers(impl.Puzzle{Pattern: p.Pattern, Rules: count})
			wantValue(t, of("CountAnswers with too few rules of "+p.Pattern, count), number, fine, 0)
		}
		if !ok {
			continue
		}
		q := impl.Puzzle{Pattern: p.Pattern, Rules: fewest}
		_, counted := impl.CountAnswers(q)
		first, fine := impl.FirstAnswer(q)
		if fine != counted {
			t.Error(nameOf("FirstAnswer", q), "is", first, fine)
		}
		if fine {
			is, ok := impl.IsAnswer(q, first)
			wantValue(t, nameOf("IsAnswer of FirstAnswer", q), is, ok, true)
		}
	}
}

// TestSureRulesAgree has SureRules with Answers, rule by rule.
func TestSureRulesAgree(t *testing.T) {
	some, none := 0, 0
	for _, p := range append(knownPuzzles(t), somePuzzles(600, 151)...) {
		answers, ok := impl.Answers(p)
		sure, fine := impl.SureRules(p)
		if fine != (ok && len(answers) > 0) {
			t.Error(nameOf("SureRules", p), "is", sure, fine)
		}
		if !fine {
			continue
		}
		for _, r := range orderedRules() {
			if slices.Contains(sure, r) != isInEach(r, answers) {
				t.Error(nameOf("SureRules", p), "is", sure, "at", r)
			}
		}
		if len(answers) > 1 && len(sure) > 0 {
			some++
		}
		if len(answers) > 1 && len(sure) == 0 {
			none++
		}
	}
	if some < 20 || none < 20 {
		t.Error("the test has too few puzzles with sure rules, or with none:", some, none)
	}
}

// TestHintsAgree has HintOf with RulesThatFit and IsLeft.
func TestHintsAgree(t *testing.T) {
	hints := 0
	for _, p := range slices.Concat(shortPuzzles(4), knownPuzzles(t), somePuzzles(2000, 152)) {
		fits, _ := impl.RulesThatFit(p)
		wantN, wantRule := 0, impl.Rule{}
		for n := len(p.Pattern); n >= 1; n-- {
			crossers := slices.DeleteFunc(slices.Clone(fits), func(r impl.Rule) bool {
				left, ok := impl.IsLeft([]impl.Rule{r}, n)
				return left || !ok
			})
			if p.Pattern[n-1] == 'x' && len(crossers) == 1 {
				wantN, wantRule = n, crossers[0]
			}
		}
		n, rule, ok := impl.HintOf(p)
		if ok != (wantN > 0) || n != wantN || rule != wantRule {
			t.Error(nameOf("HintOf", p), "is", n, rule, ok, "want", wantN, wantRule)
		}
		if ok {
			hints++
		}
	}
	if hints < 300 {
		t.Error("the test has too few hints:", hints)
	}
}

// TestHintsAreInAnswers has that the rule of a hint is in all answers.
func TestHintsAreInAnswers(t *testing.T) {
	for _, p := range append(knownPuzzles(t), somePuzzles(600, 153)...) {
		_, rule, ok := impl.HintOf(p)
		sure, fine := impl.SureRules(p)
		if ok && fine && !slices.Contains(sure, rule) {
			t.Error(nameOf("HintOf", p), "is", rule, "which is not sure:", sure)
		}
	}
}

// TestPatternsAgree has PatternOf with IsLeft, with rules as in chapter 1.
func TestPatternsAgree(t *testing.T) {
	for _, list := range append(someRules(300, 154), longPeriods()...) {
		all := plainPattern(list, impl.MaxPattern)
		for most := 1; most <= impl.MaxPattern; most++ {
			got, ok := impl.PatternOf(list, most)
			wantValue(t, of("PatternOf", most), got, ok, all[:most])
			left, fine := impl.IsLeft(list, most)
			wantValue(t, of("whether PatternOf has a last o", most), got[most-1:] == "o", ok && fine, left)
		}
	}
}

// plainMade returns so many rules that a seed makes, or fewer if there are too few. It makes all numbers first.
func plainMade(count int, seed int) []impl.Rule {
	numbers := []int{seed}
	for len(numbers) < 41 {
		numbers = append(numbers, (numbers[len(numbers)-1]*177+2221)%10007)
	}
	var list []impl.Rule
	for k := 1; k < 41 && len(list) < count; k += 2 {
		every := numbers[k]%9 + 2
		if r := (impl.Rule{Every: every, Rest: numbers[k+1] % every}); !slices.Contains(list, r) {
			list = append(list, r)
		}
	}
	return list
}

// TestMadePuzzlesArePlain has all seeds, with each number of rules.
func TestMadePuzzlesArePlain(t *testing.T) {
	failed := 0
	for seed := range mostSeed + 1 {
		for count := range mostRules + 1 {
			list := plainMade(count, seed)
			most := 1 + seed%impl.MaxPattern
			for _, most := range []int{most, impl.MaxPattern} {
				got, ok := impl.MakePuzzle(most, count, seed)
				if len(list) < count {
					wantFail(t, of("MakePuzzle", seed), got, ok)
					failed++
					continue
				}
				pattern, fine := impl.PatternOf(list, most)
				wantValue(t, of("MakePuzzle", seed), got, ok && fine, impl.Puzzle{Pattern: pattern, Rules: count})
			}
		}
	}
	if failed != 4 {
		t.Error("the test has other seeds that fail:", failed)
	}
}

// TestMadePuzzlesHaveAnswers has that the rules that are made, in order, are an answer.
func TestMadePuzzlesHaveAnswers(t *testing.T) {
	for seed := 0; seed <= mostSeed; seed += 7 {
		for count := range mostRules + 1 {
			p, ok := impl.MakePuzzle(1+seed%impl.MaxPattern, count, seed)
			if !ok || !impl.IsPuzzle(p) || strings.Contains(p.Pattern, "?") {
				t.Fatal(of("MakePuzzle", seed), "is", p, ok)
			}
			list := plainMade(count, seed)
			slices.SortFunc(list, func(a impl.Rule, b impl.Rule) int { return 100*(a.Every-b.Every) + a.Rest - b.Rest })
			is, ok := impl.IsAnswer(p, list)
			wantValue(t, nameOf("IsAnswer", p), is, ok, true)
			answers, ok := impl.Answers(p)
			if ok && !slices.ContainsFunc(answers, func(answer []impl.Rule) bool { return slices.Equal(answer, list) }) {
				t.Error(nameOf("Answers", p), "has not", list)
			}
		}
	}
}

// madePuzzles returns puzzles of seeds, and some of their numbers hidden in every second one.
func madePuzzles(t *testing.T, count int, most int, rules int) []impl.Puzzle {
	t.Helper()
	random := rand.New(rand.NewSource(155))
	puzzles := make([]impl.Puzzle, count)
	for i := range puzzles {
		puzzles[i] = impl.Puzzle{Pattern: plainPattern(plainMade(rules, 61*i), most), Rules: rules}
		if i%2 == 1 {
			puzzles[i].Pattern = withHidden(random, puzzles[i].Pattern, 4)
		}
	}
	return puzzles
}

// plainHarder hides numbers one after the other.
func plainHarder(p impl.Puzzle) impl.Puzzle {
	for n := 1; n <= len(p.Pattern); n++ {
		if hidden, ok := impl.HideNumber(p, n); ok {
			if count, counted := impl.CountAnswers(hidden); counted && count == 1 {
				p = hidden
			}
		}
	}
	return p
}

// TestHarderPuzzlesAgree has HarderPuzzle with CountAnswers and HideNumber.
func TestHarderPuzzlesAgree(t *testing.T) {
	made := slices.Concat(madePuzzles(t, 40, 20, 1), madePuzzles(t, 80, 30, 2), madePuzzles(t, 80, impl.MaxPattern, 3))
	looked := map[int]int{}
	for _, p := range slices.Concat(shortPuzzles(3), knownPuzzles(t), somePuzzles(300, 156), made) {
		count, ok := impl.CountAnswers(p)
		harder, fine := impl.HarderPuzzle(p)
		if !ok || count != 1 {
			wantFail(t, nameOf("HarderPuzzle", p), harder, fine)
			continue
		}
		looked[p.Rules]++
		wantValue(t, nameOf("HarderPuzzle", p), harder, fine, plainHarder(p))
		again, fine := impl.HarderPuzzle(harder)
		wantValue(t, nameOf("HarderPuzzle of a HarderPuzzle", p), again, fine, harder)
		first, ok := impl.FirstAnswer(p)
		same, fine := impl.FirstAnswer(harder)
		wantValue(t, nameOf("FirstAnswer of HarderPuzzle", p), same, ok && fine, first)
	}
	if looked[0] < 20 || looked[1] < 40 || looked[2] < 40 || looked[3] < 30 {
		t.Error("the test has too few puzzles with one answer:", looked)
	}
}

// TestHarderPuzzlesHideAll has that no number of a HarderPuzzle can be hidden, and that all numbers it shows are the puzzle's.
func TestHarderPuzzlesHideAll(t *testing.T) {
	for _, p := range append(madePuzzles(t, 60, 30, 2), madePuzzles(t, 30, impl.MaxPattern, 3)...) {
		harder, ok := impl.HarderPuzzle(p)
		if !ok {
			continue
		}
		for n := 1; n <= len(p.Pattern); n++ {
			hidden, ok := impl.HideNumber(harder, n)
			if !ok {
				continue
			}
			if p.Pattern[n-1] != harder.Pattern[n-1] {
				t.Error(nameOf("HarderPuzzle", p), "is", harder, "at", n)
			}
			if count, ok := impl.CountAnswers(hidden); ok && count <= 1 {
				t.Error(nameOf("HarderPuzzle", p), "shows", n, harder)
			}
		}
	}
}

// TestShowAndHideUndoEachOther has each number of each puzzle.
func TestShowAndHideUndoEachOther(t *testing.T) {
	for _, p := range slices.Concat(shortPuzzles(4), knownPuzzles(t), somePuzzles(200, 157)) {
		for n := 1; n <= len(p.Pattern); n++ {
			before, sign, behind := p.Pattern[:n-1], p.Pattern[n-1:n], p.Pattern[n:]
			asLeft, leftOK := impl.ShowNumber(p, n, true)
			asCrossed, crossedOK := impl.ShowNumber(p, n, false)
			hidden, ok := impl.HideNumber(p, n)
			if sign != "?" {
				wantFail(t, of(nameOf("ShowNumber", p), n), asLeft, leftOK)
				wantFail(t, of(nameOf("ShowNumber", p), n), asCrossed, crossedOK)
				wantValue(t, of(nameOf("HideNumber", p), n), hidden, ok, impl.Puzzle{Pattern: before + "?" + behind, Rules: p.Rules})
				back, ok := impl.ShowNumber(hidden, n, sign == "o")
				wantValue(t, of(nameOf("ShowNumber of HideNumber", p), n), back, ok, p)
				continue
			}
			wantFail(t, of(nameOf("HideNumber", p), n), hidden, ok)
			wantValue(t, of(nameOf("ShowNumber", p), n), asLeft, leftOK, impl.Puzzle{Pattern: before + "o" + behind, Rules: p.Rules})
			wantValue(t, of(nameOf("ShowNumber", p), n), asCrossed, crossedOK, impl.Puzzle{Pattern: before + "x" + behind, Rules: p.Rules})
			for _, shown := range []impl.Puzzle{asLeft, asCrossed} {
				back, ok := impl.HideNumber(shown, n)
				wantValue(t, of(nameOf("HideNumber of ShowNumber", p), n), back, ok, p)
			}
		}
	}
}

// TestShownNumbersPartAnswers has that each answer of a puzzle is one of the puzzle with a number shown, as left or as crossed out.
func TestShownNumbersPartAnswers(t *testing.T) {
	looked := 0
	for _, p := range append(knownPuzzles(t), somePuzzles(150, 158)...) {
		count, counted := impl.CountAnswers(p)
		for n := 1; n <= len(p.Pattern) && counted; n++ {
			asLeft, ok := impl.ShowNumber(p, n, true)
			asCrossed, fine := impl.ShowNumber(p, n, false)
			if !ok || !fine {
				continue
			}
			looked++
			left, ok := impl.CountAnswers(asLeft)
			crossed, fine := impl.CountAnswers(asCrossed)
			wantValue(t, of(nameOf("CountAnswers of ShowNumber", p), n), left+crossed, ok && fine, count)
		}
	}
	if looked < 300 {
		t.Error("the test has too few numbers that are not shown:", looked)
	}
}

// puzzleTexts matches a PuzzleText.
var puzzleTexts = regexp.MustCompile(`^[ox?]{1,48}:[0-3]$`)

// wantParsed checks ParsePuzzle of a text, which may be none.
func wantParsed(t *testing.T, text string) {
	t.Helper()
	got, ok := impl.ParsePuzzle(text)
	if !puzzleTexts.MatchString(text) {
		wantFail(t, "ParsePuzzle of "+text, got, ok)
		return
	}
	at := len(text) - 2
	wantValue(t, "ParsePuzzle of "+text, got, ok, impl.Puzzle{Pattern: text[:at], Rules: int(text[at+1] - '0')})
	again, ok := impl.PuzzleText(got)
	wantValue(t, "PuzzleText of ParsePuzzle", again, ok, text)
}

// TestPuzzleTextsAreRead has each PuzzleText, and texts with a byte more, less or changed.
func TestPuzzleTextsAreRead(t *testing.T) {
	for _, p := range slices.Concat(shortPuzzles(3), knownPuzzles(t), somePuzzles(50, 159)) {
		text, ok := impl.PuzzleText(p)
		read, fine := impl.ParsePuzzle(text)
		wantValue(t, nameOf("ParsePuzzle of PuzzleText", p), read, ok && fine, p)
		for _, other := range []string{"", "o", "x", "?", ":", "0", "1", "3", "4", "+", "-", " ", "\n", "\x00", "\xff"} {
			wantParsed(t, text+other)
			for at := range len(text) {
				wantParsed(t, text[:at]+other+text[at:])
				wantParsed(t, text[:at]+other+text[at+1:])
			}
		}
	}
}

// TestShortTexts has all texts of up to five of some bytes.
func TestShortTexts(t *testing.T) {
	wantParsed(t, "")
	texts := []string{""}
	for range 5 {
		var longer []string
		for _, text := range texts {
			for _, sign := range []string{"o", "x", "?", ":", "0", "2", "4", "+", "-"} {
				longer = append(longer, text+sign)
				wantParsed(t, text+sign)
			}
		}
		texts = longer
	}
}
