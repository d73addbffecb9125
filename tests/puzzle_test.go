package tests

// Promise 9: answers leave just what patterns tell.

import (
	"math"
	"slices"
	"strconv"
	"strings"
	"testing"

	"loop.example/g01235/impl"
)

// mostRules and mostSeed are the greatest number of rules of a puzzle and the greatest seed.
const mostRules = 3
const mostSeed = 9999

// signs returns the beginning of a text that comes again and again, with so many signs as a pattern has at most.
func signs(part string) string { return strings.Repeat(part, impl.MaxPattern)[:impl.MaxPattern] }

// puzzle reads a PuzzleText that is one, without the program.
func puzzle(t *testing.T, text string) impl.Puzzle {
	t.Helper()
	pattern, count, _ := strings.Cut(text, ":")
	n, err := strconv.Atoi(count)
	if err != nil {
		t.Fatal("the test has a wrong text", text)
	}
	return impl.Puzzle{Pattern: pattern, Rules: n}
}

// noSignPatterns are no patterns: too short or too long, or with a byte that is no sign, also with runes of which one byte or the rest modulo 256 is one.
func noSignPatterns() []string {
	texts := []string{"", "O", "X", "oX", "xO?", "0", "1", "-", ":", "a", "n", "p", "w", "y", ">", "@", " ", "o ", " x", "o x", "ox\n", "\nox", "ox\t", "ox:", "ox:1", "o,x", "ox*", "ox.", "x\x00", "\x00", "ox\xff", "\xffox", "o\x80x", "o\xefx"}
	texts = append(texts, "é", "oéx", "oxé", "\u016f\u0178\u013f", "o\u0178", "\u013fx", "\u043e", "\u043e\u0445", "?x\u043e", "oxo\u0445", "\uff1f", "\ufeffox", "ox\u200b", strings.Repeat("é", 24), "\u016f", "\u0178x")
	for _, sign := range []string{"o", "x", "?", "ox?"} {
		texts = append(texts, signs(sign)+"o", signs(sign)+"x", signs(sign)+"?", strings.Repeat(sign, 1000), signs(sign)[1:]+"a", "a"+signs(sign)[1:], signs(sign)[1:]+"é")
	}
	return append(texts, strings.Repeat("o", 1<<20), strings.Repeat("?", 64), strings.Repeat("x", 65), strings.Repeat("x", 256+impl.MaxPattern))
}

// noCounts are no numbers of rules of a puzzle.
func noCounts() []int {
	return []int{-1, -2, -3, mostRules + 1, mostRules + 2, 10, 54, 1 << 32, 1<<32 + 1, 256, 257, -255, math.MinInt, math.MinInt + 1, math.MaxInt, math.MaxInt - 1}
}

func TestConstantsOfPuzzles(t *testing.T) {
	wantValue(t, "MaxPattern", impl.MaxPattern, true, 48)
	wantValue(t, "MaxEvery", impl.MaxEvery, true, 10)
	wantValue(t, "MaxAnswers", impl.MaxAnswers, true, 300)
}

func TestIsPuzzle(t *testing.T) {
	patterns := []string{"o", "x", "?", "ox", "ox?", "?xo", "oxoxox", "ooo", "xxx", "???", signs("o"), signs("x"), signs("?"), signs("ox?")}
	for _, pattern := range patterns {
		for count := range mostRules + 1 {
			wantValue(t, of("IsPuzzle of "+pattern, count), impl.IsPuzzle(impl.Puzzle{Pattern: pattern, Rules: count}), true, true)
		}
		for _, count := range noCounts() {
			wantValue(t, of("IsPuzzle of "+pattern, count), impl.IsPuzzle(impl.Puzzle{Pattern: pattern, Rules: count}), true, false)
		}
	}
	for _, pattern := range noSignPatterns() {
		for _, count := range append(noCounts(), 0, 1, 2, 3) {
			wantValue(t, of("IsPuzzle of "+pattern, count), impl.IsPuzzle(impl.Puzzle{Pattern: pattern, Rules: count}), true, false)
		}
	}
	for n := range 256 {
		sign := string([]byte{byte(n)})
		for _, pattern := range []string{sign, "o" + sign, sign + "x", "x" + sign + "o", signs("?")[1:] + sign, sign + signs("x")[1:]} {
			wantValue(t, of("IsPuzzle with the byte", n), impl.IsPuzzle(impl.Puzzle{Pattern: pattern, Rules: 1}), true, strings.Contains("ox?", sign))
		}
	}
}

// TestPatternOf has rules as in chapter 1: with an Every of more than MaxEvery, in any order, and twelve of them.
func TestPatternOf(t *testing.T) {
	for text, patterns := range map[string]map[int]string{
		"-":                {1: "o", 2: "oo", impl.MaxPattern: signs("o")},
		"2:0":              {1: "o", 2: "ox", 6: "oxoxox", impl.MaxPattern: signs("ox")},
		"2:1":              {1: "x", 2: "xo", 7: "xoxoxox", impl.MaxPattern: signs("xo")},
		"2:0,3:0":          {6: "oxxxox", 12: "oxxxoxoxxxox", impl.MaxPattern: signs("oxxxox")},
		"3:0,2:0,3:0":      {6: "oxxxox"},
		"2:0,2:1":          {1: "x", 5: "xxxxx", impl.MaxPattern: signs("x")},
		"10:0":             {9: "ooooooooo", 10: "ooooooooox", 20: "oooooooooxooooooooox"},
		"10:9":             {8: "oooooooo", 9: "oooooooox", 19: "ooooooooxooooooooox"},
		"11:0":             {10: "oooooooooo", 11: "oooooooooox", 12: "ooooooooooxo"},
		"48:0":             {impl.MaxPattern - 1: signs("o")[1:], impl.MaxPattern: signs("o")[1:] + "x"},
		"60:48":            {impl.MaxPattern - 1: signs("o")[1:], impl.MaxPattern: signs("o")[1:] + "x"},
		"60:1,60:2,60:59":  {1: "x", 2: "xx", 3: "xxo", impl.MaxPattern: "xx" + signs("o")[2:]},
		"49:48,60:0,60:49": {impl.MaxPattern: signs("o")[1:] + "x"},
		"2:0,4:1,8:3,16:7,32:15,3:0,3:1,9:2,9:5,27:8,27:17": {impl.MaxPattern: signs("x")},
		"6:0,6:0,6:0,6:0,6:0,6:0,6:0,6:0,6:0,6:0,6:0,6:5":   {6: "ooooxx", impl.MaxPattern: signs("ooooxx")},
	} {
		for most, want := range patterns {
			got, ok := impl.PatternOf(readRules(t, text), most)
			wantValue(t, of("PatternOf "+text, most), got, ok, want)
		}
	}
	for _, most := range []int{0, -1, -2, impl.MaxPattern + 1, impl.MaxPattern + 2, 600, 1<<32 + 1, math.MinInt, math.MaxInt} {
		for _, list := range [][]impl.Rule{nil, rules(2, 0), rules(2, 0, 3, 1)} {
			got, ok := impl.PatternOf(list, most)
			wantFail(t, of("PatternOf", most), got, ok)
		}
	}
	got, ok := impl.PatternOf(manyRules(impl.MaxRules+1, impl.Rule{Every: 2}), 6)
	wantFail(t, "PatternOf thirteen rules", got, ok)
}

func TestRulesThatFit(t *testing.T) {
	for pattern, want := range map[string]string{
		"ooooooooo": "10:0", "oooooooooo": "-", signs("o"): "-", "oooooooo": "9:0,10:0,10:9", "ooooxoooox": "5:0,6:5,7:5,8:5,9:5,10:0,10:5", "ooooooxooo": "7:0,8:7,9:7,10:7", "oxooooooxo": "7:2,9:0,9:2,10:2,10:9", "o?ooooooxo": "7:2,9:0,9:2,10:2,10:9",
		"o?oooooo?o": "7:2,9:0,9:2,10:2,10:9", signs("oox"): "3:0,6:0,6:3,9:0,9:3,9:6", signs("oo?"): "3:0,6:0,6:3,9:0,9:3,9:6", signs("xo"): "2:1,4:1,4:3,6:1,6:3,6:5,8:1,8:3,8:5,8:7,10:1,10:3,10:5,10:7,10:9",
		"oxoxox": "2:0,4:0,4:2,5:2,5:4,6:0,6:2,6:4,7:0,7:2,7:4,7:6,8:0,8:2,8:4,8:6,8:7,9:0,9:2,9:4,9:6,9:7,9:8,10:0,10:2,10:4,10:6,10:7,10:8,10:9",
		"ooo":    "4:0,5:0,5:4,6:0,6:4,6:5,7:0,7:4,7:5,7:6,8:0,8:4,8:5,8:6,8:7,9:0,9:4,9:5,9:6,9:7,9:8,10:0,10:4,10:5,10:6,10:7,10:8,10:9",
	} {
		for count := range mostRules + 1 {
			got, ok := impl.RulesThatFit(impl.Puzzle{Pattern: pattern, Rules: count})
			wantValue(t, of("RulesThatFit of "+pattern, count), got, ok, readRules(t, want))
		}
	}
	var all []impl.Rule
	for every := 2; every <= 10; every++ {
		for rest := range every {
			all = append(all, impl.Rule{Every: every, Rest: rest})
		}
	}
	for _, pattern := range []string{"x", "?", "xx", "x?", "xxx", "???", signs("x"), signs("?"), signs("x?")} {
		got, ok := impl.RulesThatFit(impl.Puzzle{Pattern: pattern, Rules: 0})
		wantValue(t, "RulesThatFit of "+pattern, got, ok, all)
	}
}

// TestIsAnswer has lists that are answers, and lists that are rules but no answers: too many or too few, not ordered, with a rule twice, or with an Every of more than MaxEvery.
func TestIsAnswer(t *testing.T) {
	for text, lists := range map[string]map[string]bool{
		"oxoxox:1":          {"2:0": true, "2:1": false, "4:2": false, "4:0": false, "-": false, "2:0,4:0": false, "2:0,2:0": false, "12:0": false},
		"oxoxox:0":          {"-": false, "2:0": false},
		"oxoxox:2":          {"2:0": false, "2:0,4:0": true, "2:0,10:9": true, "4:2,10:4": true, "4:0,2:0": false, "10:4,4:2": false, "2:0,2:0": false, "2:0,3:0": false, "2:0,12:0": false, "2:0,60:59": false, "2:0,11:0": false, "2:0,4:0,6:0": false},
		"oxoxox:3":          {"2:0,4:0,4:2": true, "2:0,4:2,4:0": false, "4:0,2:0,4:2": false, "2:0,4:0,4:0": false, "2:0,2:0,4:0": false, "10:2,10:4,10:6": true, "10:2,10:6,10:4": false, "2:0,4:0": false, "2:0,4:0,4:2,6:0": false, "2:0,4:0,11:10": false},
		"ox?xox:1":          {"2:0": true, "4:2": false},
		"oxo?ox:1":          {"2:0": true, "4:2": true, "4:0": false, "8:2": false},
		"ooo:0":             {"-": true, "4:0": false, "10:9": false},
		"???:0":             {"-": true, "2:0": false},
		"o?x:0":             {"-": false},
		"o:1":               {"2:0": true, "10:9": true, "2:1": false, "11:0": false, "60:59": false, "-": false},
		"?:1":               {"2:0": true, "2:1": true, "10:0": true, "10:9": true, "11:0": false, "60:0": false, "-": false},
		"ooooooooox:1":      {"10:0": true, "9:1": false, "5:0": false},
		"ooooooooooox:1":    {"12:0": false, "4:0": false},
		"xxx:2":             {"2:0,2:1": true, "2:1,2:0": false, "2:1,10:2": true, "2:1,11:2": false, "2:1,12:0": false},
		"xxxxxx:3":          {"3:0,3:1,3:2": true, "3:0,3:2,3:1": false, "2:0,2:1,10:9": true, "2:1,2:0,10:9": false, "2:0,2:1,2:1": false, "2:0,2:0,2:1": false, "2:0,2:1,60:59": false},
		signs("o") + ":0":   {"-": true, "49:0": false, "60:49": false},
		signs("o") + ":1":   {"10:0": false, "49:0": false, "60:0": false, "60:59": false},
		signs("x") + ":2":   {"2:0,2:1": true, "2:1,3:2": false, "2:0": false},
		signs("?") + ":3":   {"2:0,2:1,3:0": true, "10:7,10:8,10:9": true, "10:7,10:9,10:8": false, "9:8,10:0,9:7": false, "10:8,10:9,11:0": false},
		signs("oox") + ":2": {"3:0,9:6": true, "6:0,6:3": true, "6:3,6:0": false, "6:0,9:3": false},
	} {
		for list, want := range lists {
			got, ok := impl.IsAnswer(puzzle(t, text), readRules(t, list))
			wantValue(t, "IsAnswer of "+text+" and "+list, got, ok, want)
		}
	}
}

// TestIsAnswerOfManyRules has lists of twelve rules, which are no answer, and of thirteen, which are no rules.
func TestIsAnswerOfManyRules(t *testing.T) {
	for count := range mostRules + 1 {
		p := impl.Puzzle{Pattern: "xox", Rules: count}
		for _, r := range rules(2, 1, 60, 59) {
			got, ok := impl.IsAnswer(p, manyRules(impl.MaxRules, r))
			wantValue(t, of("IsAnswer of twelve rules", count), got, ok, false)
			got, ok = impl.IsAnswer(p, manyRules(impl.MaxRules+1, r))
			wantFail(t, of("IsAnswer of thirteen rules", count), got, ok)
		}
		for _, list := range [][]impl.Rule{rules(1, 0), rules(2, 2), rules(2, -1), rules(61, 1), rules(0, 0), rules(2, 1, 2, 2), rules(2, 1, 3, 1, 61, 0)} {
			got, ok := impl.IsAnswer(p, list)
			wantFail(t, of("IsAnswer of no rules", count), got, ok)
		}
	}
}

// puzzleAnswers is a puzzle with all its answers, and the rules that all of them have.
type puzzleAnswers struct {
	puzzle  string
	answers []string
	sure    string
}

// knownAnswers are of puzzles with no answer, with one and with few, of patterns of one sign and of MaxPattern signs, and of all signs alike.
func knownAnswers() []puzzleAnswers {
	return []puzzleAnswers{
		{"oxoxox:1", []string{"2:0"}, "2:0"}, {"ox?xox:1", []string{"2:0"}, "2:0"}, {"xox:1", []string{"2:1"}, "2:1"}, {"ooooxoooox:1", []string{"5:0"}, "5:0"}, {"ooooooooox:1", []string{"10:0"}, "10:0"}, {"xooooooooo:1", []string{"10:1"}, "10:1"},
		{"oxoxox:0", nil, ""}, {"o?x:0", nil, ""}, {"x:0", nil, ""}, {"xxx:0", nil, ""}, {"xxxxxx:1", nil, ""}, {signs("x") + ":0", nil, ""}, {signs("x") + ":1", nil, ""}, {signs("o") + ":1", nil, ""}, {signs("o") + ":2", nil, ""}, {signs("o") + ":3", nil, ""},
		{signs("x")[1:] + "o:3", nil, ""}, {signs("o")[1:] + "x:1", nil, ""}, {signs("o")[1:] + "x:3", nil, ""},
		{"o:0", []string{"-"}, "-"}, {"?:0", []string{"-"}, "-"}, {"ooo:0", []string{"-"}, "-"}, {"???:0", []string{"-"}, "-"}, {"?o?:0", []string{"-"}, "-"}, {signs("o") + ":0", []string{"-"}, "-"}, {signs("?") + ":0", []string{"-"}, "-"},
		{"x:1", []string{"2:1", "3:1", "4:1", "5:1", "6:1", "7:1", "8:1", "9:1", "10:1"}, "-"},
		{"oxo:1", []string{"2:0", "3:2", "4:2", "5:2", "6:2", "7:2", "8:2", "9:2", "10:2"}, "-"},
		{"o?x:1", []string{"3:0", "4:3", "5:3", "6:3", "7:3", "8:3", "9:3", "10:3"}, "-"},
		{"oxo?ox:1", []string{"2:0", "4:2"}, "-"},
		{"xxx:2", []string{"2:0,2:1", "2:1,3:2", "2:1,4:2", "2:1,5:2", "2:1,6:2", "2:1,7:2", "2:1,8:2", "2:1,9:2", "2:1,10:2"}, "2:1"},
		{"xxxxxx:2", []string{"2:0,2:1"}, "2:0,2:1"}, {signs("x") + ":2", []string{"2:0,2:1"}, "2:0,2:1"}, {"xxoxxo:2", []string{"3:1,3:2"}, "3:1,3:2"},
		{"oxoxooooxx:2", []string{"5:4,8:2", "6:4,7:2"}, "-"},
		{"ooooxoooox:2", []string{"5:0,6:5", "5:0,7:5", "5:0,8:5", "5:0,9:5", "5:0,10:0", "5:0,10:5", "6:5,10:0", "7:5,10:0", "8:5,10:0", "9:5,10:0", "10:0,10:5"}, "-"},
		{"?x?xxo:2", []string{"3:1,3:2", "3:2,4:0", "3:2,5:4", "3:2,6:4", "3:2,7:4", "3:2,8:4", "3:2,9:4", "3:2,10:4"}, "3:2"},
		{signs("oox") + ":1", []string{"3:0"}, "3:0"}, {signs("oox") + ":2", []string{"3:0,6:0", "3:0,6:3", "3:0,9:0", "3:0,9:3", "3:0,9:6", "6:0,6:3"}, "-"},
		{signs("oox") + ":3", []string{"3:0,6:0,6:3", "3:0,6:0,9:0", "3:0,6:0,9:3", "3:0,6:0,9:6", "3:0,6:3,9:0", "3:0,6:3,9:3", "3:0,6:3,9:6", "3:0,9:0,9:3", "3:0,9:0,9:6", "3:0,9:3,9:6", "6:0,6:3,9:0", "6:0,6:3,9:3", "6:0,6:3,9:6", "9:0,9:3,9:6"}, "-"},
		{signs("oxx") + ":2", []string{"3:0,3:2"}, "3:0,3:2"},
		{signs("oxx") + ":3", []string{"3:0,3:2,6:0", "3:0,3:2,6:2", "3:0,3:2,6:3", "3:0,3:2,6:5", "3:0,3:2,9:0", "3:0,3:2,9:2", "3:0,3:2,9:3", "3:0,3:2,9:5", "3:0,3:2,9:6", "3:0,3:2,9:8", "3:0,6:2,6:5", "3:2,6:0,6:3"}, "-"},
		{signs("xo") + ":1", []string{"2:1"}, "2:1"},
		{signs("xo") + ":2", []string{"2:1,4:1", "2:1,4:3", "2:1,6:1", "2:1,6:3", "2:1,6:5", "2:1,8:1", "2:1,8:3", "2:1,8:5", "2:1,8:7", "2:1,10:1", "2:1,10:3", "2:1,10:5", "2:1,10:7", "2:1,10:9", "4:1,4:3"}, "-"},
		{"xoxxoxoxox:3", []string{"4:0,5:1,7:3", "5:1,5:3,6:4"}, "5:1"},
		{"oxoxooxxox:3", []string{"4:0,5:2,6:4", "4:0,5:2,8:2", "4:0,5:2,10:0", "4:0,7:0,8:2", "4:0,8:2,8:7", "4:0,8:2,9:7", "4:0,8:2,10:7", "5:2,6:2,6:4", "5:2,6:4,8:0", "5:2,6:4,9:8", "5:2,6:4,10:8", "6:2,6:4,7:0", "6:2,6:4,8:7", "6:2,6:4,9:7", "6:2,6:4,10:7"}, "-"},
		{"xoxxoxxx:3", []string{"3:0,3:1,4:0", "3:0,3:1,5:3", "3:0,3:1,7:1", "3:0,3:1,8:0", "3:0,3:1,9:8", "3:0,3:1,10:8", "3:0,4:0,6:1", "3:1,5:1,5:3", "3:1,5:3,6:0", "3:1,5:3,7:6", "3:1,5:3,8:6", "3:1,5:3,9:6", "3:1,5:3,10:6", "4:0,4:3,5:1"}, "-"},
		{"xxxxxxo:3", []string{"2:0,3:0,4:1", "2:0,4:1,5:3", "2:0,4:1,6:3", "2:0,4:1,7:3", "2:0,4:1,8:3", "2:0,4:1,9:3", "2:0,4:1,10:3"}, "2:0,4:1"},
	}
}

// answersCounted is a puzzle with many answers: how many, the first one and the last one, of which no rule is in all.
type answersCounted struct {
	puzzle string
	count  int
	first  string
	last   string
}

// knownMany have up to MaxAnswers answers.
func knownMany() []answersCounted {
	return []answersCounted{
		{"?:1", 54, "2:0", "10:9"}, {"o:1", 45, "2:0", "10:9"}, {signs("?") + ":1", 54, "2:0", "10:9"}, {"xxxxxxxxxx:3", 55, "2:0,2:1,3:0", "3:0,3:1,3:2"}, {signs("x") + ":3", 55, "2:0,2:1,3:0", "3:0,3:1,3:2"},
		{"oxoxox:2", 36, "2:0,4:0", "4:2,10:4"}, {"xox:2", 108, "2:1,3:0", "10:1,10:3"}, {"xx:2", 81, "2:0,2:1", "10:1,10:2"}, {signs("xo") + ":3", 106, "2:1,4:1,4:3", "6:1,6:3,6:5"}, {"oxo:2", 288, "2:0,3:2", "10:2,10:9"},
		{"oxoxoxo????xo??x:3", 299, "2:0,4:0,4:2", "10:2,10:4,10:6"}, {"ox??oxoxx:3", 299, "2:0,3:0,4:0", "7:2,10:6,10:8"},
		{"o?o?o?o:2", impl.MaxAnswers, "2:0,4:0", "10:8,10:9"}, {"oo???oo:2", impl.MaxAnswers, "4:0,5:0", "10:8,10:9"}, {"xxo?oox?o:3", impl.MaxAnswers, "3:1,4:0,5:2", "10:1,10:2,10:7"}, {"oxox?oo?x:3", impl.MaxAnswers, "3:2,4:0,5:4", "10:2,10:4,10:9"},
	}
}

// tooManyAnswers have 301 answers, the next two puzzles 303 and 324, and the others up to 24804.
func tooManyAnswers() []string {
	return []string{"ooxxoox:3", "xooxxoo:3", "oo?xx?ox?:3", "o?x:2", "ooo:2", "x:2", "???o?x?xx:3", "oxoxox:3", "?:2", signs("?") + ":2", "x:3", "o:3", "?:3", "xxx:3", signs("?") + ":3"}
}

func TestAnswers(t *testing.T) {
	for _, c := range knownAnswers() {
		want := make([][]impl.Rule, len(c.answers))
		for i, text := range c.answers {
			want[i] = readRules(t, text)
		}
		got, ok := impl.Answers(puzzle(t, c.puzzle))
		if !ok || !slices.EqualFunc(got, want, slices.Equal) {
			t.Error("Answers of", c.puzzle, "is", got, ok, "want", want)
		}
	}
	for _, c := range knownMany() {
		got, ok := impl.Answers(puzzle(t, c.puzzle))
		if !ok || len(got) != c.count {
			t.Error("Answers of", c.puzzle, "are", len(got), ok, "want", c.count)
			continue
		}
		wantValue(t, "the first one of Answers of "+c.puzzle, got[0], ok, readRules(t, c.first))
		wantValue(t, "the last one of Answers of "+c.puzzle, got[c.count-1], ok, readRules(t, c.last))
	}
}

func TestCountAnswers(t *testing.T) {
	for _, c := range knownAnswers() {
		got, ok := impl.CountAnswers(puzzle(t, c.puzzle))
		wantValue(t, "CountAnswers of "+c.puzzle, got, ok, len(c.answers))
	}
	for _, c := range knownMany() {
		got, ok := impl.CountAnswers(puzzle(t, c.puzzle))
		wantValue(t, "CountAnswers of "+c.puzzle, got, ok, c.count)
	}
}

func TestFirstAnswer(t *testing.T) {
	for _, c := range knownAnswers() {
		got, ok := impl.FirstAnswer(puzzle(t, c.puzzle))
		if len(c.answers) == 0 {
			wantFail(t, "FirstAnswer of "+c.puzzle, got, ok)
		} else {
			wantValue(t, "FirstAnswer of "+c.puzzle, got, ok, readRules(t, c.answers[0]))
		}
	}
	for _, c := range knownMany() {
		got, ok := impl.FirstAnswer(puzzle(t, c.puzzle))
		wantValue(t, "FirstAnswer of "+c.puzzle, got, ok, readRules(t, c.first))
	}
}

func TestSureRules(t *testing.T) {
	for _, c := range knownAnswers() {
		got, ok := impl.SureRules(puzzle(t, c.puzzle))
		if len(c.answers) == 0 {
			wantFail(t, "SureRules of "+c.puzzle, got, ok)
		} else {
			wantValue(t, "SureRules of "+c.puzzle, got, ok, readRules(t, c.sure))
		}
	}
	for _, c := range knownMany() {
		got, ok := impl.SureRules(puzzle(t, c.puzzle))
		wantValue(t, "SureRules of "+c.puzzle, got, ok, rules())
	}
}

// TestTooManyAnswers has that what looks for answers fails, and FewestRules does not.
func TestTooManyAnswers(t *testing.T) {
	for _, text := range tooManyAnswers() {
		p := puzzle(t, text)
		answers, ok := impl.Answers(p)
		wantFail(t, "Answers of "+text, answers, ok)
		count, ok := impl.CountAnswers(p)
		wantFail(t, "CountAnswers of "+text, count, ok)
		first, ok := impl.FirstAnswer(p)
		wantFail(t, "FirstAnswer of "+text, first, ok)
		sure, ok := impl.SureRules(p)
		wantFail(t, "SureRules of "+text, sure, ok)
		harder, ok := impl.HarderPuzzle(p)
		wantFail(t, "HarderPuzzle of "+text, harder, ok)
		fewest, ok := impl.FewestRules(p.Pattern)
		if !ok || fewest > p.Rules {
			t.Error("FewestRules of", p.Pattern, "is", fewest, ok)
		}
	}
}

// TestFewestRules has patterns with as many answers as a puzzle may have, and with more: the last one of those with 3 rules has 448.
func TestFewestRules(t *testing.T) {
	for fewest, patterns := range [][]string{
		{"o", "?", "ooo", "???", "o?o?", signs("o"), signs("?"), signs("?o")},
		{"x", "oxoxox", "ox?xox", "ooooooooox", "xooooooooo", "oxoooxo", "oo?xoo?xoo?x", "o?x", "?????x", signs("oox"), signs("xo"), signs("?")[1:] + "x"},
		{"xx", "xxx", "xxxxxxxxxx", "xxoxxo", "oxoxooooxx", signs("x"), signs("oxx"), signs("?")[2:] + "xx"},
		{"x?x?xx??o??", "xxxoo?????", "xxxxxxo", "xoxxoxxx", "oxoxooxxox", "oxoxxoxx", "oxxxoxxxxxxxo", "????o?xxx?"},
	} {
		for _, pattern := range patterns {
			got, ok := impl.FewestRules(pattern)
			wantValue(t, "FewestRules of "+pattern, got, ok, fewest)
		}
	}
	for _, pattern := range []string{signs("o")[1:] + "x", signs("x")[1:] + "o", "o" + signs("x")[1:], "xxxxxxxxxxxo", "oooooooooox", "x?xoxxxxoxxxx", "xx?xx??xxoxo??xx", "ooxoxxxoxxxxxoxx"} {
		got, ok := impl.FewestRules(pattern)
		wantFail(t, "FewestRules of "+pattern, got, ok)
	}
	for _, pattern := range noSignPatterns() {
		got, ok := impl.FewestRules(pattern)
		wantFail(t, "FewestRules of "+pattern, got, ok)
	}
}

// TestHintOf has patterns in which the first number with x has just one rule, and in which it has none, two or more and a later one has one.
func TestHintOf(t *testing.T) {
	for pattern, want := range map[string]struct {
		n    int
		rule impl.Rule
	}{
		"ooooooooox": {10, impl.Rule{Every: 10, Rest: 0}}, "ooooooo??x": {10, impl.Rule{Every: 10, Rest: 0}}, "xooooooooo": {1, impl.Rule{Every: 10, Rest: 1}}, "xooooooooox": {1, impl.Rule{Every: 10, Rest: 1}},
		"ooooooooxx": {10, impl.Rule{Every: 10, Rest: 0}}, "ooxoooooooox": {12, impl.Rule{Every: 9, Rest: 3}}, "ooxooxooooxo": {11, impl.Rule{Every: 8, Rest: 3}}, "?ooooo?ooxx": {11, impl.Rule{Every: 10, Rest: 1}}, "xooooo?oooxo": {11, impl.Rule{Every: 10, Rest: 1}},
		"ooxoooooooxox": {11, impl.Rule{Every: 8, Rest: 3}}, "oooooooxxx?": {10, impl.Rule{Every: 10, Rest: 0}}, "ooooooxoox": {10, impl.Rule{Every: 10, Rest: 0}}, "oooooxoxooox": {12, impl.Rule{Every: 6, Rest: 0}}, "oxoooooxoox": {11, impl.Rule{Every: 9, Rest: 2}},
		"xxooooooooo": {2, impl.Rule{Every: 10, Rest: 2}}, "xoxoooooooox": {12, impl.Rule{Every: 9, Rest: 3}}, "ooooooxooooxooox": {16, impl.Rule{Every: 9, Rest: 7}}, "oooooooxooooooxx": {16, impl.Rule{Every: 8, Rest: 0}}, "xxxxxoxoxxxoxoxoxoxo": {4, impl.Rule{Every: 9, Rest: 4}},
		"??xoo?o?xxxx???oox????o?oo?o?xooxo???xxoo?oo??xx": {11, impl.Rule{Every: 9, Rest: 2}}, "oxoxxxxxoxxxoxoxxxoxoxxxxxoxxxoxoxxxoxxxxxoxoxxx": {25, impl.Rule{Every: 7, Rest: 4}},
	} {
		for count := range mostRules + 1 {
			n, rule, ok := impl.HintOf(impl.Puzzle{Pattern: pattern, Rules: count})
			wantValue(t, of("HintOf "+pattern, count), n, ok, want.n)
			wantValue(t, of("the rule of HintOf "+pattern, count), rule, ok, want.rule)
		}
	}
	// In the last ones, some numbers with x are crossed out by no rule that fits, and all others by more than one.
	for _, pattern := range []string{"ox?xox", "oxoxox", "o", "x", "?", "xxx", "ooo", "???", signs("o"), signs("x"), signs("?"), signs("oox"), signs("xo"), "oooooooox", "oooooooooo", signs("o")[1:] + "x", "oooooooooox"} {
		for count := range mostRules + 1 {
			n, rule, ok := impl.HintOf(impl.Puzzle{Pattern: pattern, Rules: count})
			wantFail(t, of("HintOf "+pattern, count), n, ok)
			wantFail(t, of("the rule of HintOf "+pattern, count), rule, ok)
		}
	}
}

func TestShowNumber(t *testing.T) {
	for _, c := range []struct {
		puzzle string
		n      int
		left   bool
		want   string
	}{
		{"?:0", 1, true, "o:0"}, {"?:3", 1, false, "x:3"}, {"ox?xox:1", 3, true, "oxoxox:1"}, {"ox?xox:1", 3, false, "oxxxox:1"}, {"???:2", 1, true, "o??:2"}, {"???:2", 2, false, "?x?:2"}, {"???:2", 3, true, "??o:2"},
		{signs("?") + ":1", 1, false, "x" + signs("?")[1:] + ":1"}, {signs("?") + ":1", impl.MaxPattern, true, signs("?")[1:] + "o:1"}, {signs("x")[1:] + "?:0", impl.MaxPattern, false, signs("x") + ":0"},
	} {
		got, ok := impl.ShowNumber(puzzle(t, c.puzzle), c.n, c.left)
		wantValue(t, of("ShowNumber of "+c.puzzle, c.n), got, ok, puzzle(t, c.want))
	}
	for text, numbers := range map[string][]int{
		"ox?xox:1": {0, -1, 1, 2, 4, 5, 6, 7, 8, impl.MaxPattern, math.MinInt, math.MaxInt, 1<<32 + 3}, "?:0": {0, 2, -1, math.MinInt, math.MaxInt}, "o:0": {0, 1, 2}, "x:0": {0, 1, 2}, signs("?") + ":3": {0, -1, impl.MaxPattern + 1, math.MinInt, math.MaxInt}, signs("xo") + ":3": {0, 1, 2, 47, 48, 49},
	} {
		for _, n := range numbers {
			for _, left := range []bool{false, true} {
				got, ok := impl.ShowNumber(puzzle(t, text), n, left)
				wantFail(t, of("ShowNumber of "+text, n), got, ok)
			}
		}
	}
}

func TestHideNumber(t *testing.T) {
	for _, c := range []struct {
		puzzle string
		n      int
		want   string
	}{
		{"o:0", 1, "?:0"}, {"x:3", 1, "?:3"}, {"oxoxox:1", 3, "ox?xox:1"}, {"oxoxox:1", 1, "?xoxox:1"}, {"oxoxox:1", 6, "oxoxo?:1"}, {"ox?xox:1", 2, "o??xox:1"}, {signs("ox") + ":2", 1, "?" + signs("ox")[1:] + ":2"}, {signs("x") + ":2", impl.MaxPattern, signs("x")[1:] + "?:2"},
	} {
		got, ok := impl.HideNumber(puzzle(t, c.puzzle), c.n)
		wantValue(t, of("HideNumber of "+c.puzzle, c.n), got, ok, puzzle(t, c.want))
	}
	for text, numbers := range map[string][]int{
		"ox?xox:1": {0, -1, 3, 7, 8, impl.MaxPattern, math.MinInt, math.MaxInt, 1<<32 + 1}, "?:0": {0, 1, 2}, "o:0": {0, 2, -1, math.MinInt, math.MaxInt}, signs("?") + ":3": {0, 1, 2, 47, 48, 49}, signs("xo") + ":3": {0, -1, impl.MaxPattern + 1, math.MinInt, math.MaxInt},
	} {
		for _, n := range numbers {
			got, ok := impl.HideNumber(puzzle(t, text), n)
			wantFail(t, of("HideNumber of "+text, n), got, ok)
		}
	}
}

// TestMakePuzzle has seeds at which rules come that are there already: at 16 and 108 once, at 147 twice, and at 476 three times. At 3342 the same rule comes always.
func TestMakePuzzle(t *testing.T) {
	for _, c := range []struct {
		most, rules, seed int
		want              string
	}{
		{6, 1, 0, "oooooo"}, {12, 0, 0, "oooooooooooo"}, {12, 1, 0, "ooooooxooooo"}, {12, 2, 0, "xooooxxoooxo"}, {12, 3, 0, "xoooxxxoooxo"},
		{impl.MaxPattern, 3, 0, "xoooxxxoooxooooxxoooxoxoxxooxoxooxxxooooxoxooxxo"}, {impl.MaxPattern, 3, 1, "xoooooxxoxooxooooxxoooooxooxooxoooooxxooooxooxox"},
		{impl.MaxPattern, 0, mostSeed, signs("o")}, {impl.MaxPattern, 1, mostSeed, signs("ooooox")}, {impl.MaxPattern, 2, mostSeed, "oooooxoooooxooxooxoooooxoooooxooxooxoooooxooooox"}, {impl.MaxPattern, 3, mostSeed, "oxoooxoooxoxooxooxoooooxoxoooxooxxoxoooooxooooox"},
		{1, 0, 0, "o"}, {1, 1, 0, "o"}, {1, 3, mostSeed, "o"}, {1, 1, 1, "x"}, {1, 2, 5000, "o"}, {2, 2, 5000, "oo"},
		{20, 2, 16, "xoxoxoxoxoxoxoxoxoxo"}, {20, 3, 16, "xoxoxoxoxoxxxoxoxoxo"}, {20, 2, 108, "xoxoxxxoxoxoxoxoxoxo"}, {impl.MaxPattern, 3, 147, signs("oxxx")}, {impl.MaxPattern, 3, 476, "xoxxxoxoxoxoxxxoxoxoxoxxxoxoxoxoxxxoxoxoxoxxxoxo"},
		{30, 0, 3342, signs("o")[:30]}, {30, 1, 3342, signs("oxooo")[:30]}, {impl.MaxPattern, 1, 3342, signs("oxooo")}, {9, 2, 3341, "oxxoooooo"}, {9, 2, 3343, "oxoxoxoxx"},
	} {
		got, ok := impl.MakePuzzle(c.most, c.rules, c.seed)
		wantValue(t, "MakePuzzle of "+wordsOf([]int{c.most, c.rules, c.seed}), got, ok, impl.Puzzle{Pattern: c.want, Rules: c.rules})
	}
	for _, c := range [][3]int{
		{0, 1, 0}, {-1, 1, 0}, {impl.MaxPattern + 1, 1, 0}, {math.MinInt, 1, 0}, {math.MaxInt, 1, 0}, {12, -1, 0}, {12, mostRules + 1, 0}, {12, math.MinInt, 0}, {12, math.MaxInt, 0}, {12, 1, -1}, {12, 1, mostSeed + 1}, {12, 1, 10007}, {12, 1, math.MinInt}, {12, 1, math.MaxInt},
		{12, 0, -1}, {12, 0, mostSeed + 1}, {0, 0, 0}, {impl.MaxPattern + 1, 0, 0}, {1, 2, 3342}, {30, 2, 3342}, {30, 3, 3342}, {impl.MaxPattern, 3, 3342}, {1<<32 + 12, 1, 0}, {12, 1<<32 + 1, 0}, {12, 1, 1 << 32},
	} {
		got, ok := impl.MakePuzzle(c[0], c[1], c[2])
		wantFail(t, "MakePuzzle of "+wordsOf(c[:]), got, ok)
	}
}

// TestHarderPuzzle has puzzles in which some numbers are hidden already, all are, none can be, and all can be.
func TestHarderPuzzle(t *testing.T) {
	for text, want := range map[string]string{
		"oxoxox:1": "???x?x", "ox?xox:1": "???x?x", "???x?x:1": "???x?x", "xox:1": "x?x", "x?x:1": "x?x", "ooo:0": "???", "o:0": "?", "?:0": "?", "o?o:0": "???", signs("o") + ":0": signs("?"), signs("?") + ":0": signs("?"), "xxxxxx:2": "??xxxx", "xxxxxxxxxx:2": "??????xxxx", "??xxxx:2": "??xxxx",
		signs("x") + ":2": signs("?")[4:] + "xxxx", signs("xo") + ":1": signs("?")[4:] + "x?x?", signs("oox") + ":1": signs("?")[4:] + "x??x", signs("oxx") + ":2": signs("?")[6:] + "oxx?xx", "xxoxxo:2": "xx?xxo", "ooooxoooox:1": "????x????x", "ooooooooox:1": "ooooo????x", "xooooooooo:1": "?ooooooooo",
		"?x?x?x?x?x?x:1": "?????????x?x", "oooooooooxoooooooooxooo:1": "??????????ooooo????x???", "xo?xo?xo?xoo:1": "??????x??x??", "xxooooxooxoxooooxoxo:2": "??????x??x?x???o??x?", "ox?oxox??ox?ooo??ooo:2": "?x??x?x?????ooo???o?", "xoxooooxxoooxoooxxoo:2": "????o???x???x???xx??",
		"oxoooxoxoo?xox?o?xoxo?oxo???o?o?o?ox??oooxox?oox:2": "?????????????x?????x??????????????????oo?x?x??ox", "ooox??ooo?xxooo???xo?oooxx????oxxo?oo??xoooooxxo:2": "???????????????????????????????x???????x?o?o?xx?",
		"xoooxxxoooxooooxxoooxoxoxxooxoxooxxxooooxoxooxxo:3": "??????????????????????????????x??x??oooo??x??xx?", "xxoxxoxxoxxoxxoxxxxxoxxoxxoxxoxxoxxoxxxxxoxxoxxo:3": "?????????????????x?????????????????????x?oxxo?xo",
	} {
		p := puzzle(t, text)
		got, ok := impl.HarderPuzzle(p)
		wantValue(t, "HarderPuzzle of "+text, got, ok, impl.Puzzle{Pattern: want, Rules: p.Rules})
	}
	for _, text := range []string{"oxoxox:0", "o?x:0", "x:0", signs("o") + ":1", signs("x")[1:] + "o:3", "oxo?ox:1", "oxoxooooxx:2", "xoxxoxoxox:3", "x:1", "oxoxox:2", "o?o?o?o:2", "xxxxxxo:3", "?:1", "?:3"} {
		got, ok := impl.HarderPuzzle(puzzle(t, text))
		wantFail(t, "HarderPuzzle of "+text, got, ok)
	}
}

func TestPuzzleText(t *testing.T) {
	for _, pattern := range []string{"o", "x", "?", "oxoxox", "ox?xox", "???", signs("o"), signs("x?")} {
		for count, text := range []string{":0", ":1", ":2", ":3"} {
			p := impl.Puzzle{Pattern: pattern, Rules: count}
			got, ok := impl.PuzzleText(p)
			wantValue(t, of("PuzzleText of "+pattern, count), got, ok, pattern+text)
			read, ok := impl.ParsePuzzle(pattern + text)
			wantValue(t, "ParsePuzzle of "+pattern+text, read, ok, p)
		}
	}
}

func TestNoPuzzleTexts(t *testing.T) {
	texts := []string{
		"", ":", "::", "ox", "ox1", "ox:", ":1", "1:ox", "ox:1:", "ox::1", ":ox:1", "ox:1:1", "o:x:1", "ox:1:0", "ox;1", "ox1:", "ox.1", "ox\uff1a1", "ox:1ox:1", "ox:1,ox:1", "ox:1\nox:1", "ox:\x00", "ox:1\x00", "-", "-:0", "0", "1", "2:0", "2:0,3:1",
		"ox:00", "ox:01", "ox:03", "ox:001", "ox:+1", "ox:+0", "ox:-0", "ox:-1", "ox:--1", "ox: 1", "ox:1 ", " ox:1", "ox :1", "o x:1", "ox:1\n", "ox:\n1", "ox\n:1", "ox:\t1", "ox:1\r", "ox:4", "ox:5", "ox:10", "ox:31", "ox:1.0", "ox:1.", "ox:1e0", "ox:0x1", "ox:1_0", "ox:_1", "ox:x", "ox:o", "ox:?", "ox:a", "ox:\uff11", "ox:\u0661",
		"ox:4294967297", "ox:-4294967295", "ox:9223372036854775807", "ox:9223372036854775808", "ox:-9223372036854775808", "ox:18446744073709551617", "ox:99999999999999999999", "ox:" + strings.Repeat("9", 1000), "ox:" + strings.Repeat("0", 1000) + "1", "ox:1" + strings.Repeat("0", 1000), strings.Repeat("ox:1", 100), strings.Repeat(":", 1000),
	}
	for _, pattern := range noSignPatterns() {
		texts = append(texts, pattern+":0", pattern+":1", pattern+":3")
	}
	for _, text := range texts {
		got, ok := impl.ParsePuzzle(text)
		wantFail(t, "ParsePuzzle of "+strconv.Quote(text[:min(len(text), 60)]), got, ok)
	}
	for _, pattern := range append(noSignPatterns(), "ox?") {
		for _, count := range noCounts() {
			got, ok := impl.PuzzleText(impl.Puzzle{Pattern: pattern, Rules: count})
			wantFail(t, of("PuzzleText of no puzzle", count), got, ok)
			read, ok := impl.ParsePuzzle(pattern + ":" + strconv.Itoa(count))
			wantFail(t, of("ParsePuzzle of no puzzle", count), read, ok)
		}
	}
}

// TestExampleOfPuzzles has what the document's example says.
func TestExampleOfPuzzles(t *testing.T) {
	for _, text := range []string{"oxoxox:1", "ox?xox:1"} {
		p, ok := impl.ParsePuzzle(text)
		answers, fine := impl.Answers(p)
		if !ok || !fine || len(answers) != 1 {
			t.Fatal("Answers of", text, "are", answers)
		}
		told, ok := impl.RulesText(answers[0])
		wantValue(t, "the answer of "+text, told, ok, "2:0")
	}
	n, _, ok := impl.HintOf(puzzle(t, "ox?xox:1"))
	wantFail(t, "HintOf ox?xox:1", n, ok)
	fits, ok := impl.RulesThatFit(puzzle(t, "ox?xox:1"))
	wantValue(t, "whether 4:2 and 2:0 fit", slices.Contains(fits, impl.Rule{Every: 4, Rest: 2}) && slices.Contains(fits, impl.Rule{Every: 2}), ok, true)
	fewest, ok := impl.FewestRules("xxx")
	wantValue(t, "FewestRules of xxx", fewest, ok, 2)
	first, ok := impl.FirstAnswer(impl.Puzzle{Pattern: "xxx", Rules: fewest})
	wantValue(t, "FirstAnswer of xxx:2", first, ok, readRules(t, "2:0,2:1"))
}
