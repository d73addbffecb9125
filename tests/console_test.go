package tests

// Promise 10: scripts do what the calls do that they name.

import (
	"math"
	"slices"
	"strconv"
	"strings"
	"testing"

	"loop.example/g01235/impl"
)

// deskOf returns a desk with a RulesText.
func deskOf(t *testing.T, text string, most int) impl.Desk {
	t.Helper()
	return impl.Desk{Rules: readRules(t, text), Most: most}
}

// nameOfLine returns what a line at a desk is called.
func nameOfLine(d impl.Desk, line string) string {
	return of(strconv.Quote(line[:min(len(line), 60)])+" at a desk with "+textOf(d.Rules)+" and the Most", d.Most)
}

// textOf writes a RulesText without the program.
func textOf(list []impl.Rule) string {
	texts := make([]string, len(list))
	for i, r := range list {
		texts[i] = strconv.Itoa(r.Every) + ":" + strconv.Itoa(r.Rest)
	}
	if len(texts) == 0 {
		return "-"
	}
	return strings.Join(texts, ",")
}

// wantLine checks the reply to a line, and the desk behind it.
func wantLine(t *testing.T, d impl.Desk, line string, behind impl.Desk, reply string) {
	t.Helper()
	after, got, ok := impl.DeskLine(d, line)
	wantValue(t, "the reply to "+nameOfLine(d, line), got, ok, reply)
	wantValue(t, "the desk behind "+nameOfLine(d, line), after, ok, behind)
}

// wantReply checks the reply to a line that leaves the desk as it was.
func wantReply(t *testing.T, d impl.Desk, line string, reply string) {
	t.Helper()
	wantLine(t, d, line, d, reply)
}

// wantChange checks a line with an effect, whose reply is the RulesText behind it.
func wantChange(t *testing.T, d impl.Desk, line string, text string) {
	t.Helper()
	wantLine(t, d, line, deskOf(t, text, d.Most), text)
}

// twelve and thirteen are texts of MaxRules rules, and of one more.
const twelve = "2:0,3:0,4:1,5:0,6:1,7:0,8:3,9:4,10:1,12:7,15:8,60:59"
const thirteen = twelve + ",2:1"

// everyTwelve is the text of rules that leave just the numbers one less than a multiple of 864, and of those just what 5 does not divide.
const everyTwelve = "2:0,4:1,8:3,16:7,32:15,3:0,3:1,9:2,9:5,27:8,27:17,5:0"

// tooLong are rules with a period of more than 100000, and tooLongForWheels such with one of more than MaxWheel.
const tooLong = "3:0,17:0,37:0,53:0"
const tooLongForWheels = "5:0,7:0,11:0,13:0"

// noneLeft are rules that leave no number.
const noneLeft = "2:0,3:0,3:1,6:5"

func TestConstantsOfConsole(t *testing.T) {
	wantValue(t, "MaxScript", impl.MaxScript, true, 3000)
	wantValue(t, "MaxLines", impl.MaxLines, true, 50)
}

func TestFirstDesk(t *testing.T) {
	wantValue(t, "FirstDesk", impl.FirstDesk(), true, impl.Desk{Rules: rules(2, 0, 3, 0), Most: 30})
	wantValue(t, "IsDesk of FirstDesk", impl.IsDesk(impl.FirstDesk()), true, true)
}

func TestIsDesk(t *testing.T) {
	for _, list := range [][]impl.Rule{nil, {}, rules(2, 0), rules(2, 0, 2, 0), rules(60, 59), nothingLeft(), readRules(t, twelve), readRules(t, tooLong), manyRules(impl.MaxRules, impl.Rule{Every: 2})} {
		for _, most := range []int{0, 1, 30, impl.MaxNumber - 1, impl.MaxNumber} {
			wantValue(t, of("IsDesk of "+textOf(list), most), impl.IsDesk(impl.Desk{Rules: list, Most: most}), true, true)
		}
		for _, most := range []int{-1, -2, impl.MaxNumber + 1, -impl.MaxNumber, 1 << 32, math.MinInt, math.MaxInt} {
			wantValue(t, of("IsDesk of "+textOf(list), most), impl.IsDesk(impl.Desk{Rules: list, Most: most}), true, false)
		}
	}
	for _, list := range append(wrongRules(), readRules(t, thirteen)) {
		for _, most := range []int{0, 30, impl.MaxNumber, -1, impl.MaxNumber + 1} {
			wantValue(t, of("IsDesk of no rules", most), impl.IsDesk(impl.Desk{Rules: list, Most: most}), true, false)
		}
	}
}

func TestRulesLines(t *testing.T) {
	for _, before := range []string{"-", "2:0,3:0", twelve, noneLeft} {
		for _, text := range []string{"-", "2:0", "2:1", "60:59", "2:0,2:0", "3:2,2:1", "2:0,3:0", tooLong, noneLeft, twelve, everyTwelve} {
			wantChange(t, deskOf(t, before, 7), "rules "+text, text)
		}
	}
}

func TestAddLines(t *testing.T) {
	for _, c := range []struct{ rules, added, behind string }{
		{"-", "-", "-"}, {"-", "2:0", "2:0"}, {"-", twelve, twelve}, {"2:0", "-", "2:0"}, {"2:0,3:0", "4:2", "2:0,3:0,4:2"}, {"4:2", "2:0,3:0", "4:2,2:0,3:0"}, {"2:0", "2:0", "2:0,2:0"}, {"3:1,2:0", "60:59,3:1", "3:1,2:0,60:59,3:1"},
		{twelve, "-", twelve}, {tooLong, "59:0,47:1", tooLong + ",59:0,47:1"},
		{"2:0,3:0,4:1,5:0,6:1,7:0,8:3,9:4,10:1,12:7,15:8", "60:59", twelve}, {"2:0", "3:0,4:1,5:0,6:1,7:0,8:3,9:4,10:1,12:7,15:8,60:59", twelve}, {"2:0,3:0,4:1,5:0,6:1,7:0", "8:3,9:4,10:1,12:7,15:8,60:59", twelve},
	} {
		wantChange(t, deskOf(t, c.rules, 600), "add "+c.added, c.behind)
	}
	for _, c := range []struct{ rules, added string }{{twelve, "2:0"}, {"2:1", twelve}, {twelve, twelve}, {"2:0,3:0,4:1,5:0,6:1,7:0", "8:3,9:4,10:1,12:7,15:8,60:59,2:1"}, {"2:0,3:0,4:1,5:0,6:1,7:0,8:3,9:4,10:1,12:7,15:8", "60:59,60:59"}} {
		wantReply(t, deskOf(t, c.rules, 600), "add "+c.added, "no")
	}
}

func TestDropLines(t *testing.T) {
	for _, c := range []struct{ rules, line, behind string }{
		{"2:0,3:0", "drop 0", "3:0"}, {"2:0,3:0", "drop 1", "2:0"}, {"5:4", "drop 0", "-"}, {"2:0,2:0,2:1", "drop 1", "2:0,2:1"}, {"3:0,4:1,5:2", "drop 0", "4:1,5:2"}, {"3:0,4:1,5:2", "drop 1", "3:0,5:2"}, {"3:0,4:1,5:2", "drop 2", "3:0,4:1"},
		{twelve, "drop 0", "3:0,4:1,5:0,6:1,7:0,8:3,9:4,10:1,12:7,15:8,60:59"}, {twelve, "drop 6", "2:0,3:0,4:1,5:0,6:1,7:0,9:4,10:1,12:7,15:8,60:59"}, {twelve, "drop 10", "2:0,3:0,4:1,5:0,6:1,7:0,8:3,9:4,10:1,12:7,60:59"}, {twelve, "drop 11", "2:0,3:0,4:1,5:0,6:1,7:0,8:3,9:4,10:1,12:7,15:8"},
	} {
		wantChange(t, deskOf(t, c.rules, 12), c.line, c.behind)
	}
	for text, numbers := range map[string][]int{"-": {0, 1, 11, 12, 999999}, "2:0": {1, 2, 999999}, "2:0,3:0": {2, 3, 5, 256, 65536, 999999}, twelve: {12, 13, 60, 999999}} {
		for _, k := range numbers {
			wantReply(t, deskOf(t, text, 12), "drop "+strconv.Itoa(k), "no")
		}
	}
}

func TestMostLines(t *testing.T) {
	for _, text := range []string{"-", "2:0,3:0", noneLeft, twelve, tooLong} {
		for _, before := range []int{0, 30, impl.MaxNumber} {
			for _, most := range []int{0, 1, 9, 12, 30, 599, impl.MaxNumber} {
				wantLine(t, deskOf(t, text, before), "most "+strconv.Itoa(most), deskOf(t, text, most), text)
			}
			for _, most := range []int{impl.MaxNumber + 1, 602, 1000, 65536, 999999} {
				wantReply(t, deskOf(t, text, before), "most "+strconv.Itoa(most), "no")
			}
		}
	}
}

func TestMoveLines(t *testing.T) {
	for _, c := range []struct{ rules, line, behind string }{
		{"2:0,3:0", "move 0", "2:0,3:0"}, {"2:0,3:1", "move 1", "2:1,3:2"}, {"2:0,3:0", "move 600", "2:0,3:0"}, {"60:59", "move 1", "60:0"}, {"60:59", "move 60", "60:59"}, {"60:59", "move 599", "60:58"},
		{"5:1,60:0,7:6,2:1", "move 1", "5:2,60:1,7:0,2:0"}, {"5:1,60:0,7:6,2:1", "move 599", "5:0,60:59,7:3,2:0"}, {"5:1,60:0,7:6,2:1", "move 600", "5:1,60:0,7:4,2:1"},
		{"-", "move 0", "-"}, {"-", "move 600", "-"}, {tooLong, "move 2", "3:2,17:2,37:2,53:2"}, {twelve, "move 0", twelve},
	} {
		wantChange(t, deskOf(t, c.rules, 30), c.line, c.behind)
	}
	for _, by := range []string{"601", "602", "1000", "999999"} {
		for _, text := range []string{"-", "2:0,3:0", twelve} {
			wantReply(t, deskOf(t, text, 30), "move "+by, "no")
		}
	}
}

func TestMirrorLines(t *testing.T) {
	for before, behind := range map[string]string{"-": "-", "2:0,3:0": "2:0,3:0", "2:1": "2:1", "2:0,3:1": "2:0,3:2", "5:1,60:0,7:6,2:1": "5:4,60:0,7:1,2:1", tooLong: tooLong, noneLeft: "2:0,3:0,3:2,6:1", "4:3,4:1,4:3": "4:1,4:3,4:1"} {
		wantChange(t, deskOf(t, before, 30), "mirror", behind)
	}
}

func TestTidyLines(t *testing.T) {
	for before, behind := range map[string]string{
		"-": "-", "2:0": "2:0", "2:0,3:0": "2:0,3:0", "2:0,3:0,4:2": "2:0,3:0", "2:0,3:1,4:2": "2:0,3:1", "2:0,2:0": "2:0", "4:0,4:2,2:0": "4:0,4:2", "2:0,4:0,4:2": "2:0", "2:0,4:2,2:0,6:3,3:0": "2:0,6:3", "2:0,2:1,2:0": "2:0,2:1", "2:0,2:1,5:3": "2:0,2:1",
		everyTwelve: everyTwelve, "3:0,25:0,31:0,43:0,3:0": "3:0,25:0,31:0,43:0", "2:1,2:1,2:1,2:1,2:1,2:1,2:1,2:1,2:1,2:1,2:1,2:1": "2:1",
	} {
		wantChange(t, deskOf(t, before, 30), "tidy", behind)
	}
	for _, text := range []string{tooLong, "16:0,7:0,19:0,47:0", "59:0,58:0,57:0,55:0", "2:0,2:0," + tooLong} {
		wantReply(t, deskOf(t, text, 30), "tidy", "no")
	}
}

func TestPrimesLines(t *testing.T) {
	for line, behind := range map[string]string{"primes 0": "-", "primes 1": "2:0", "primes 3": "2:0,3:0,5:0", "primes 11": "2:0,3:0,5:0,7:0,11:0,13:0,17:0,19:0,23:0,29:0,31:0", "primes 12": "2:0,3:0,5:0,7:0,11:0,13:0,17:0,19:0,23:0,29:0,31:0,37:0"} {
		for _, before := range []string{"-", "2:1", twelve} {
			wantChange(t, deskOf(t, before, 30), line, behind)
		}
	}
	for _, line := range []string{"primes 13", "primes 14", "primes 268", "primes 65537", "primes 999999"} {
		wantReply(t, deskOf(t, "2:0,3:0", 30), line, "no")
		wantReply(t, deskOf(t, "-", 30), line, "no")
	}
}

func TestShowLines(t *testing.T) {
	for _, text := range []string{"-", "2:0", "2:0,3:0", "3:0,2:0", "2:0,2:0", "60:59,10:9", noneLeft, tooLong, twelve, everyTwelve} {
		for _, most := range []int{0, 30, impl.MaxNumber} {
			wantReply(t, deskOf(t, text, most), "show", text)
		}
	}
}

func TestLeftLines(t *testing.T) {
	for _, c := range []struct {
		rules string
		most  int
		left  string
		count string
	}{
		{"2:0,3:0", 30, "1,5,7,11,13,17,19,23,25,29", "10"}, {"2:0,3:0", 12, "1,5,7,11", "4"}, {"2:0,3:0", 4, "1", "1"}, {"2:0,3:0", 5, "1,5", "2"}, {"2:0,3:0", 1, "1", "1"}, {"2:0,3:0", 0, "-", "0"}, {"2:1", 1, "-", "0"}, {"2:1", 2, "2", "1"},
		{"-", 0, "-", "0"}, {"-", 1, "1", "1"}, {"-", 12, "1,2,3,4,5,6,7,8,9,10,11,12", "12"}, {noneLeft, 0, "-", "0"}, {noneLeft, 30, "-", "0"}, {noneLeft, impl.MaxNumber, "-", "0"}, {"2:0,2:1", impl.MaxNumber, "-", "0"}, {everyTwelve, impl.MaxNumber, "-", "0"},
		{"2:0,3:0,5:0,7:0", 100, "1,11,13,17,19,23,29,31,37,41,43,47,53,59,61,67,71,73,79,83,89,97", "22"}, {tooLong, 20, "1,2,4,5,7,8,10,11,13,14,16,19,20", "13"}, {"2:0,3:0,5:0,7:0,11:0,13:0,17:0,19:0,23:0", impl.MaxNumber - 590, "1", "1"},
	} {
		wantReply(t, deskOf(t, c.rules, c.most), "left", c.left)
		wantReply(t, deskOf(t, c.rules, c.most), "count", c.count)
	}
	wantReply(t, deskOf(t, "-", impl.MaxNumber), "left", strings.ReplaceAll(wordsOf(upTo(1, impl.MaxNumber)), " ", ","))
	for text, count := range map[string]string{"-": "600", "2:0,3:0": "200", "60:59": "590", "2:0,3:0,5:0,7:0": "137"} {
		wantReply(t, deskOf(t, text, impl.MaxNumber), "count", count)
	}
}

func TestPeriodLines(t *testing.T) {
	for text, reply := range map[string]string{
		"-": "1", "2:0": "2", "2:1,2:0": "2", "2:0,3:0": "6", "60:59": "60", noneLeft: "6", everyTwelve: "4320", twelve: "2520", tooLongForWheels: "5005", "3:0,25:0,31:0,43:0": "99975", "8:0,3:0,5:0,49:0,17:0": "99960",
		tooLong: "no", "16:0,7:0,19:0,47:0": "no", "59:0,58:0,57:0,55:0": "no", "60:0,59:0,53:0,47:0,43:0,41:0,37:0,31:0,29:0,23:0,19:0,17:0": "no",
	} {
		wantReply(t, deskOf(t, text, 30), "period", reply)
	}
}

func TestWheelLines(t *testing.T) {
	for _, c := range []struct{ rules, spokes, steps, rank0, rank4, rank999999 string }{
		{"2:0,3:0", "1,5", "4,2", "1", "13", "2999999"}, {"-", "1", "1", "1", "5", "1000000"}, {"2:0", "1", "2", "1", "9", "1999999"}, {"2:1", "2", "2", "2", "10", "2000000"}, {"3:0", "1,2", "1,2", "1", "7", "1499999"}, {"2:0,3:0,3:1", "5", "6", "5", "29", "5999999"},
		{"2:0,3:0,5:0", "1,7,11,13,17,19,23,29", "6,4,2,4,2,4,6,2", "1", "17", "3749999"}, {everyTwelve, "863,1727,2591,4319", "864,864,1728,864", "863", "5183", "1079999999"},
		{noneLeft, "no", "no", "no", "no", "no"}, {"2:0,2:1", "no", "no", "no", "no", "no"}, {tooLongForWheels, "no", "no", "no", "no", "no"}, {tooLong, "no", "no", "no", "no", "no"},
	} {
		for _, most := range []int{0, 30} {
			d := deskOf(t, c.rules, most)
			wantReply(t, d, "spokes", c.spokes)
			wantReply(t, d, "steps", c.steps)
			wantReply(t, d, "rank 0", c.rank0)
			wantReply(t, d, "rank 4", c.rank4)
			wantReply(t, d, "rank 999999", c.rank999999)
		}
	}
	for text, reply := range map[string]string{"2:0,3:0,49:0,17:0": "3253903", "27:0,5:0,37:0": "1334134", "7:0,23:0,31:0": "1260352"} {
		wantReply(t, deskOf(t, text, 30), "rank 999999", reply)
	}
}

// TestNumberLines has lines whose reply is the same at all desks.
func TestNumberLines(t *testing.T) {
	for line, reply := range map[string]string{
		"factors 0": "no", "factors 1": "-", "factors 2": "2,1", "factors 4": "2,2", "factors 6": "2,1/3,1", "factors 360": "2,3/3,2/5,1", "factors 524288": "2,19", "factors 720720": "2,4/3,2/5,1/7,1/11,1/13,1", "factors 994009": "997,2", "factors 999983": "999983,1", "factors 999999": "3,3/7,1/11,1/13,1/37,1", "factors 1000000": "what",
		"pi 0": "0", "pi 1": "0", "pi 2": "1", "pi 3": "2", "pi 30": "10", "pi 9972": "1228", "pi 9973": "1229", "pi 10000": "1229", "pi 10001": "no", "pi 10002": "no", "pi 65536": "no", "pi 999999": "no", "pi 1000000": "what",
		"divisors 0": "no", "divisors 1": "1", "divisors 2": "1,2", "divisors 12": "1,2,3,4,6,12", "divisors 49": "1,7,49", "divisors 994009": "1,997,994009", "divisors 999983": "1,999983", "divisors 999998": "1,2,31,62,127,254,3937,7874,16129,32258,499999,999998", "divisors 1000000": "what",
		"divisors 999999": "1,3,7,9,11,13,21,27,33,37,39,63,77,91,99,111,117,143,189,231,259,273,297,333,351,407,429,481,693,777,819,999,1001,1221,1287,1443,2079,2331,2457,2849,3003,3367,3663,3861,4329,5291,6993,8547,9009,10101,10989,12987,15873,25641,27027,30303,37037,47619,76923,90909,111111,142857,333333,999999",
		"totient 0":       "no", "totient 1": "1", "totient 2": "1", "totient 12": "4", "totient 720720": "138240", "totient 999983": "999982", "totient 999998": "480060", "totient 999999": "466560", "totient 1000000": "what",
	} {
		for _, text := range []string{"2:0,3:0", "-", noneLeft, tooLong, twelve} {
			wantReply(t, deskOf(t, text, 30), line, reply)
		}
	}
}

func TestPatternLines(t *testing.T) {
	for text, replies := range map[string]map[int]string{
		"2:0,3:0": {0: "no", 1: "o", 6: "oxxxox", 12: "oxxxoxoxxxox", impl.MaxPattern: signs("oxxxox"), impl.MaxPattern + 1: "no", 600: "no", 999999: "no", 1000000: "what"},
		"-":       {0: "no", 1: "o", 2: "oo", impl.MaxPattern: signs("o"), impl.MaxPattern + 1: "no"},
		noneLeft:  {0: "no", 1: "x", 5: "xxxxx", impl.MaxPattern: signs("x"), impl.MaxPattern + 1: "no"},
		"2:1":     {1: "x", 3: "xox"}, "60:48": {47: signs("o")[1:], 48: signs("o")[1:] + "x"}, tooLong: {7: "ooxooxo"}, twelve: {12: "xxxxxxxxxxxx"},
	} {
		for n, reply := range replies {
			for _, most := range []int{0, 3, impl.MaxNumber} {
				wantReply(t, deskOf(t, text, most), "pattern "+strconv.Itoa(n), reply)
			}
		}
	}
}

// TestAnswerLines has puzzles with one answer, several, just MaxAnswers, more, and none, and texts that are none of a puzzle.
func TestAnswerLines(t *testing.T) {
	replies := map[string]string{
		"oxoxox:1": "2:0", "ox?xox:1": "2:0", signs("oox") + ":1": "3:0", "xxxxxx:2": "2:0,2:1", "oxxxoxoxxxox:2": "2:0,3:0", "xxxxxxo:3": "2:0,3:0,4:1", "xoxxoxoxox:3": "4:0,5:1,7:3", "x:1": "2:1", "o:1": "2:0",
		"o:0": "-", "ooo:0": "-", "???:0": "-", "?o?:0": "-", signs("o") + ":0": "-", signs("?") + ":0": "-",
		"x:0": "no", "oxoxox:0": "no", "xxxxxx:1": "no", signs("o") + ":1": "no", signs("x")[1:] + "o:3": "no",
	}
	for _, c := range knownAnswers() {
		if len(c.answers) > 0 {
			replies[c.puzzle] = c.answers[0]
		} else {
			replies[c.puzzle] = "no"
		}
	}
	for _, c := range knownMany() {
		replies[c.puzzle] = c.first
	}
	for _, text := range tooManyAnswers() {
		replies[text] = "no"
	}
	for _, text := range noPuzzleWords() {
		replies[text] = "no"
	}
	for text, reply := range replies {
		for _, list := range []string{"-", "2:0,3:0", tooLong} {
			wantReply(t, deskOf(t, list, 30), "answer "+text, reply)
		}
	}
}

// noPuzzleWords are words that are no PuzzleText.
func noPuzzleWords() []string {
	return []string{
		"", "x", "o", "ox", ":", ":1", "ox:", "ox:4", "ox:-1", "ox:+1", "ox:01", "ox:1:", "ox:1:1", "ox:10", "OX:1", "oX:1", "0:1", "ob:1", "-", "-:0", "2:0", "2:0,3:0", "12", "0", "?", "??", "no", "what", "ox:1,ox:1", "ox:1\t", "\tox:1", "ox:1\r", "\t", "\x00", "ox:1\x00", "\xff", "\xffox:1", "ox:\xc3", "é:1", "ox\u00a0:1",
		signs("?") + "?:0", signs("o") + "o:1", "answer", "answer:1", strings.Repeat("ox:1", 100), strings.Repeat("o", 2900) + ":1",
	}
}

// noNumberWords are words that are no number of a line.
func noNumberWords() []string {
	return []string{
		"", "-", "+", "-0", "+0", "-1", "+1", "+12", "-12", "--1", "00", "01", "000", "001", "012", "0000000", "0000001", "000012", "0999999", "1000000", "1000001", "1000012", "1048577", "9999999", "10000000", "2147483649", "4294967296", "4294967297", "9223372036854775807", "9223372036854775808", "-9223372036854775808", "18446744073709551616", "18446744073709551617", "99999999999999999999",
		strings.Repeat("9", 1000), strings.Repeat("0", 1000), "1" + strings.Repeat("0", 1000), strings.Repeat("0", 1000) + "1", "a", "x", "1a", "a1", "12a", "1a2", "1.", "1.0", ".1", "1,0", "1,", ",1", "1e0", "1e1", "0x1", "0b1", "0o1", "1_0", "_1", "1:0", "2:0", "N", "K", "one", "\t", "1\t", "\t1", "1\r", "\r1", "1\x00", "\x001", "\xff", "1\xff", "1\v", "1\f", "\u00a01", "1\u00a0", "\uff11", "\u0661", "\u00b9", "\ufeff1", "no", "what",
	}
}

// numberedLines are the words with a number behind them, to which the reply is neither no nor what with the number 1 at FirstDesk.
func numberedLines() []string {
	return []string{"drop", "most", "move", "primes", "rank", "factors", "pi", "divisors", "totient", "pattern"}
}

// TestNumbersOfLines has that a number is asked for, and that no other word is one.
func TestNumbersOfLines(t *testing.T) {
	for _, word := range numberedLines() {
		_, reply, ok := impl.DeskLine(impl.FirstDesk(), word+" 1")
		if !ok || reply == "no" || reply == "what" {
			t.Error("the reply to", word, 1, "is", reply, ok)
		}
		for _, other := range noNumberWords() {
			for _, text := range []string{"2:0,3:0", "-", tooLong, noneLeft, twelve} {
				wantReply(t, deskOf(t, text, 30), word+" "+other, "what")
			}
		}
		for _, number := range []string{"0", "1", "2", "9", "10", "99", "100", "999", "1000", "9999", "10000", "99999", "100000", "999998", "999999"} {
			for _, text := range []string{"2:0,3:0", "-", tooLong} {
				if _, reply, ok := impl.DeskLine(deskOf(t, text, 30), word+" "+number); !ok || reply == "what" {
					t.Error("the reply to", word, number, "is", reply, ok)
				}
			}
		}
	}
}

// noRulesWords are words that are no RulesText.
func noRulesWords() []string {
	return []string{
		"", ",", ":", "--", "+", "0", "2", "2:", ":0", "2;0", "2.0", "2:0,", ",2:0", "2:0,,3:0", "-,2:0", "2:0,-", "2:0:0", "2:0;3:0", "2:0/3:0", "2:2", "2:3", "3:3", "60:60", "61:0", "1:0", "0:0", "2:-1", "-2:0", "-2:1", "+2:0", "2:+0", "2:-0", "02:0", "2:00", "2:01", "2:0,3:3", "3:3,2:0", "2:0,03:0", "2:0,1:0", "2:0,61:0", "600:0", "999999:0", "18446744073709551618:0", "2:18446744073709551616",
		"a", "a:0", "2:a", "2:0a", "2:0x", "x2:0", "2:0\t", "\t2:0", "2:0\r", "2:0\x00", "\x00", "\xff", "2:\xff", "2:\uff10", "2:\u0660", "no", "what", "rules", "R",
		thirteen, twelve + ",", "," + twelve, twelve + "," + twelve, strings.Repeat("2:0,", 12) + "2:0", strings.Repeat("2:0,", 700) + "2:0",
	}
}

// TestRulesOfLines has that a RulesText is asked for, also where there would be too many rules.
func TestRulesOfLines(t *testing.T) {
	for _, word := range []string{"rules", "add"} {
		for _, other := range noRulesWords() {
			for _, text := range []string{"2:0,3:0", "-", twelve} {
				wantReply(t, deskOf(t, text, 30), word+" "+other, "what")
			}
		}
	}
}

// ordinaryLines are all lines of the document's table, with their replies at FirstDesk.
func ordinaryLines() map[string]string {
	return map[string]string{
		"rules 3:1,2:1": "3:1,2:1", "add 5:4": "2:0,3:0,5:4", "drop 0": "3:0", "most 12": "2:0,3:0", "move 1": "2:1,3:1", "mirror": "2:0,3:0", "tidy": "2:0,3:0", "primes 3": "2:0,3:0,5:0",
		"show": "2:0,3:0", "left": "1,5,7,11,13,17,19,23,25,29", "count": "10", "period": "6", "spokes": "1,5", "steps": "4,2", "rank 4": "13", "factors 12": "2,2/3,1", "pi 12": "5", "divisors 12": "1,2,3,4,6,12", "totient 12": "4", "pattern 12": "oxxxoxoxxxox", "answer oxo?ox:1": "2:0",
	}
}

func TestOrdinaryLines(t *testing.T) {
	if len(ordinaryLines()) != 21 {
		t.Error("the test has not all lines of the table")
	}
	for line, reply := range ordinaryLines() {
		after, got, ok := impl.DeskLine(impl.FirstDesk(), line)
		wantValue(t, "the reply to "+line, got, ok, reply)
		want := impl.FirstDesk()
		switch strings.Fields(line)[0] {
		case "rules", "add", "drop", "move", "mirror", "tidy", "primes":
			want.Rules = readRules(t, reply)
		case "most":
			want.Most = 12
		}
		wantValue(t, "the desk behind "+line, after, ok, want)
	}
}

// nearLines are a line with too few or too many words, with blanks where there are none, and with other bytes. None of them is a line of the table.
func nearLines(line string) []string {
	word, other, isPair := strings.Cut(line, " ")
	lines := []string{" " + line, line + " ", "  " + line, line + "  ", " " + line + " ", line + " 1", line + " 0", line + " -", line + " 2:0", line + " oxo:1", line + " " + line, line + " " + word, "1 " + line, "show " + line, line + " show", line + " x y", line + strings.Repeat(" ", 2000)}
	first := append([]string{strings.ToUpper(word), strings.ToUpper(word[:1]) + word[1:], word[:len(word)-1], word[1:], word + "s", word + word, word + "\t", "\t" + word, word + "\r", word + "\x00", "\x00" + word, word + "\xff", "\x80" + word, word + "\u00a0", word + ":", "\"" + word + "\"", "\ufeff" + word}, strings.Split(word, "")...)
	for _, changed := range first {
		lines = append(lines, changed)
		if isPair {
			lines = append(lines, changed+" "+other)
		}
	}
	if isPair {
		return append(lines, word, other, word+other, other+" "+word, word+"  "+other, word+"\t"+other, word+"\u00a0"+other, word+" "+other+" "+other, word+","+other, word+":"+other)
	}
	return append(lines, word+" "+word, word+" 12", word+" fly")
}

func TestNearLines(t *testing.T) {
	for line := range ordinaryLines() {
		for _, near := range nearLines(line) {
			wantReply(t, impl.FirstDesk(), near, "what")
			wantReply(t, deskOf(t, "-", 0), near, "what")
		}
	}
}

func TestOtherLines(t *testing.T) {
	for _, line := range []string{
		"", " ", "  ", "   ", strings.Repeat(" ", 100), "\t", "\r", "\x00", "\xff", "\v", "fly", "fly 1", "fly 2:0", "fly fly", "fly oxo:1", "no", "what", "no 1", "what 1", "-", "- -", "0", "1", "1 1", "2:0", "2:0,3:0", "oxoxox:1", "1 show", "12 most", "2:0 rules", "Show", "LEFT", "left,count", "left;count", "left count", "left/count",
		"mirrors", "move-1", "move=1", "rules=2:0", "add2:0", "pi30", "pi-30", "unknown", "quit", "exit", "help", "undo", "lucky", "lucky 10", "square 4", "gaps", "open 3", "spoke", "step", "ranks 4", "factor 4", "divisor 4", "totients 4", "patterns 4", "answers oxo:1", "prime 4", "primes  3", "drops 0", "\u00e9", "\u0441ount", strings.Repeat("left", 500), strings.Repeat("left ", 500),
	} {
		wantReply(t, impl.FirstDesk(), line, "what")
	}
}

// TestLongLines has lines of MaxScript bytes, and of more.
func TestLongLines(t *testing.T) {
	d := impl.FirstDesk()
	for line, reply := range map[string]string{"answer " + strings.Repeat("x", impl.MaxScript-7): "no", "factors " + strings.Repeat("1", impl.MaxScript-8): "what", strings.Repeat(" ", impl.MaxScript): "what", strings.Repeat("x", impl.MaxScript): "what", "show" + strings.Repeat(" ", impl.MaxScript-4): "what", strings.Repeat("\xff", impl.MaxScript): "what"} {
		if len(line) != impl.MaxScript {
			t.Fatal("the test has a line of", len(line))
		}
		wantReply(t, d, line, reply)
		wantReply(t, d, line[:impl.MaxScript-1], reply)
		for _, more := range []string{"x", " ", "0", "\n", "xx", strings.Repeat(" ", 5000)} {
			wantNoLine(t, d, line+more)
		}
	}
}

// wantNoLine checks that a line fails, or one at what is no desk.
func wantNoLine(t *testing.T, d impl.Desk, line string) {
	t.Helper()
	after, reply, ok := impl.DeskLine(d, line)
	wantFail(t, "the reply to "+nameOfLine(d, line), reply, ok)
	wantFail(t, "the desk behind "+nameOfLine(d, line), after, ok)
}

// TestLinesWithNewlines has a newline anywhere in a line.
func TestLinesWithNewlines(t *testing.T) {
	for line := range ordinaryLines() {
		for at := range len(line) + 1 {
			wantNoLine(t, impl.FirstDesk(), line[:at]+"\n"+line[at:])
		}
		wantNoLine(t, impl.FirstDesk(), line+"\nshow")
		wantNoLine(t, impl.FirstDesk(), line+"\r\n")
	}
	for _, line := range []string{"\n", "\n\n", " \n", "\n ", "fly\n", "fly\nfly", "\x00\n", "\xff\n\xff"} {
		wantNoLine(t, impl.FirstDesk(), line)
	}
}

// TestNoDesks has lines at what is no desk.
func TestNoDesks(t *testing.T) {
	for line := range ordinaryLines() {
		for _, most := range []int{-1, impl.MaxNumber + 1, math.MinInt, math.MaxInt} {
			for _, text := range []string{"-", "2:0,3:0", twelve} {
				wantNoLine(t, deskOf(t, text, most), line)
			}
		}
		for _, list := range append(wrongRules(), readRules(t, thirteen)) {
			wantNoLine(t, impl.Desk{Rules: list, Most: 30}, line)
		}
	}
	for _, line := range []string{"", "fly", "rules -", "rules 2:0", "most 30", "most x", "drop 12", "answer x"} {
		wantNoLine(t, deskOf(t, thirteen, 30), line)
		wantNoLine(t, deskOf(t, "2:0,1:0", 30), line)
		wantNoLine(t, deskOf(t, "2:0", -1), line)
		wantNoLine(t, deskOf(t, "2:0", impl.MaxNumber+1), line)
	}
}

// wantScript checks the replies to a script, the desk behind it, and its lines that failed.
func wantScript(t *testing.T, s string, replies []string, behind impl.Desk, failed []int) {
	t.Helper()
	name := strconv.Quote(s[:min(len(s), 100)])
	got, ok := impl.RunScript(s)
	wantValue(t, "RunScript of "+name, got, ok, replies)
	after, ok := impl.DeskAfter(s)
	wantValue(t, "DeskAfter "+name, after, ok, behind)
	numbers, ok := impl.FailedLines(s)
	wantValue(t, "FailedLines of "+name, numbers, ok, failed)
}

// wantNoScript checks that all functions of scripts fail.
func wantNoScript(t *testing.T, s string) {
	t.Helper()
	name := strconv.Quote(s[:min(len(s), 100)])
	got, ok := impl.RunScript(s)
	wantFail(t, "RunScript of "+name, got, ok)
	after, ok := impl.DeskAfter(s)
	wantFail(t, "DeskAfter "+name, after, ok)
	numbers, ok := impl.FailedLines(s)
	wantFail(t, "FailedLines of "+name, numbers, ok)
}

// sameReplies returns a list with a reply so many times.
func sameReplies(reply string, count int) []string { return slices.Repeat([]string{reply}, count) }

func TestScripts(t *testing.T) {
	first := impl.FirstDesk()
	wantScript(t, "", nil, first, nil)
	wantScript(t, "\n", []string{"what"}, first, []int{1})
	wantScript(t, "\n\n\n", sameReplies("what", 3), first, []int{1, 2, 3})
	wantScript(t, " \n  \n", sameReplies("what", 2), first, []int{1, 2})
	wantScript(t, "show\n", []string{"2:0,3:0"}, first, nil)
	wantScript(t, "count\n\ncount\n", []string{"10", "what", "10"}, first, []int{2})
	wantScript(t, "most 12\ncount\nmost 601\ncount\nmost x\ncount\n", []string{"2:0,3:0", "4", "no", "4", "what", "4"}, deskOf(t, "2:0,3:0", 12), []int{3, 5})
	wantScript(t, "drop 0\ndrop 0\ndrop 0\nshow\nleft\n", []string{"3:0", "-", "no", "-", "1,2,3,4,5,6,7,8,9,10,11,12,13,14,15,16,17,18,19,20,21,22,23,24,25,26,27,28,29,30"}, deskOf(t, "-", 30), []int{3})
	wantScript(t, "rules "+twelve+"\nadd 2:0\nadd -\nrules "+thirteen+"\ndrop 11\nadd 2:1\n", []string{twelve, "no", twelve, "what", strings.TrimSuffix(twelve, ",60:59"), strings.Replace(twelve, "60:59", "2:1", 1)}, deskOf(t, strings.Replace(twelve, "60:59", "2:1", 1), 30), []int{2, 4})
	wantScript(t, "rules 2:0,3:1\nmove 1\nmirror\nadd 2:1\ntidy\nprimes 3\nshow\nspokes\n", []string{"2:0,3:1", "2:1,3:2", "2:1,3:1", "2:1,3:1,2:1", "2:1,3:1", "2:0,3:0,5:0", "2:0,3:0,5:0", "1,7,11,13,17,19,23,29"}, deskOf(t, "2:0,3:0,5:0", 30), nil)
	wantScript(t, "show\r\nshow\n\tshow\nshow \n show\n", []string{"what", "2:0,3:0", "what", "what", "what"}, first, []int{1, 3, 4, 5})
	wantScript(t, "rules -\nmost 0\nleft\nfactors 1\nanswer o:0\nshow\n", sameReplies("-", 6), deskOf(t, "-", 0), nil)
	wantScript(t, "no\nwhat\nanswer\nanswer \nanswer x\nrules \nadd \n\x00\n\xff\n", []string{"what", "what", "what", "no", "no", "what", "what", "what", "what"}, first, []int{1, 2, 3, 4, 5, 6, 7, 8, 9})
}

// TestLinesOfScripts has scripts of MaxLines lines, and of one more.
func TestLinesOfScripts(t *testing.T) {
	for line, reply := range map[string]string{"": "what", "count": "10", "answer x": "no", "show": "2:0,3:0", "fly": "what"} {
		var failed []int
		if reply == "no" || reply == "what" {
			failed = upTo(1, impl.MaxLines)
		}
		script := strings.Repeat(line+"\n", impl.MaxLines)
		wantScript(t, script, sameReplies(reply, impl.MaxLines), impl.FirstDesk(), failed)
		wantScript(t, script[len(line)+1:], sameReplies(reply, impl.MaxLines-1), impl.FirstDesk(), failed[:max(len(failed)-1, 0)])
		for _, more := range []string{"\n", line + "\n", "show\n", "x", " ", "show", "\r", "\n\n", strings.Repeat("\n", 1000)} {
			wantNoScript(t, script+more)
		}
	}
	moves := strings.Repeat("add 60:59\n", impl.MaxRules-2) + strings.Repeat("move 1\n", impl.MaxLines-impl.MaxRules+2)
	after, ok := impl.DeskAfter(moves)
	want := append(rules(2, 0, 3, 1), manyRules(impl.MaxRules-2, impl.Rule{Every: 60, Rest: 39})...)
	wantValue(t, "DeskAfter many moves", after, ok, impl.Desk{Rules: want, Most: 30})
}

// TestBytesOfScripts has scripts of MaxScript bytes, and of one more.
func TestBytesOfScripts(t *testing.T) {
	first := impl.FirstDesk()
	two := "rules " + strings.Repeat("2:0,", 11) + "60:59\n  x\n"
	for script, want := range map[string][]string{
		"answer " + strings.Repeat("x", impl.MaxScript-8) + "\n":                                            {"no"},
		strings.Repeat(" ", impl.MaxScript-1) + "\n":                                                        {"what"},
		"count\n" + strings.Repeat("x", impl.MaxScript-13) + "\ncount\n":                                    {"10", "what", "10"},
		strings.Repeat(strings.Repeat("x", impl.MaxScript/impl.MaxLines-1)+"\n", impl.MaxLines):             sameReplies("what", impl.MaxLines),
		strings.Repeat("answer "+strings.Repeat("y", impl.MaxScript/30-8)+"\n", 30):                         sameReplies("no", 30),
		strings.Repeat(two, 10) + strings.Repeat("x", impl.MaxScript-1-10*len(two)) + "\n":                  append(slices.Repeat([]string{strings.Repeat("2:0,", 11) + "60:59", "what"}, 10), "what"),
		strings.Repeat("\n", impl.MaxLines-1) + strings.Repeat("\xff", impl.MaxScript-impl.MaxLines) + "\n": sameReplies("what", impl.MaxLines),
	} {
		if len(script) != impl.MaxScript {
			t.Fatal("the test has a script of", len(script))
		}
		got, ok := impl.RunScript(script)
		wantValue(t, "RunScript of so many bytes", got, ok, want)
		if !strings.HasPrefix(script, "rules") {
			after, ok := impl.DeskAfter(script)
			wantValue(t, "DeskAfter so many bytes", after, ok, first)
		}
		wantNoScript(t, script+"\n")
		wantNoScript(t, "x"+script)
		wantNoScript(t, strings.Replace(script, "\n", "x\n", 1))
		wantNoScript(t, script+"show\n")
	}
}

// TestNoScripts has scripts whose last line is not ended by a newline.
func TestNoScripts(t *testing.T) {
	for _, s := range []string{"show", "x", " ", "\r", "\x00", "\xff", "\nshow", "\n ", "\n\r", "show\nshow", "show\n\nshow", "show\n ", "show\n\r", "count\nleft\nfly", "show\r", "show\v", "show\u2028", "show\u0085", "\n\n\nx", "show\\n", "show\x0a\x00"} {
		wantNoScript(t, s)
		replies, ok := impl.RunScript(s + "\n")
		wantValue(t, "the number of replies to "+strconv.Quote(s), len(replies), ok, strings.Count(s, "\n")+1)
	}
	wantNoScript(t, strings.Repeat("\n", impl.MaxLines-1)+"show")
	wantNoScript(t, strings.Repeat("x", impl.MaxScript))
	wantNoScript(t, strings.Repeat("x", impl.MaxScript+1))
	wantNoScript(t, "\n"+strings.Repeat("x", impl.MaxScript-1))
}

// TestExampleOfConsole has what the document's example says.
func TestExampleOfConsole(t *testing.T) {
	lines := []string{"count", "most 12", "left", "steps", "rank 4", "add 4:2", "tidy", "factors 360", "pi 30", "totient 12", "pattern 6", "answer oxoxox:1", "drop 5", "answer x", "fly"}
	want := []string{"10", "2:0,3:0", "1,5,7,11", "4,2", "13", "2:0,3:0,4:2", "2:0,3:0", "2,3/3,2/5,1", "10", "4", "oxxxox", "2:0", "no", "no", "what"}
	wantScript(t, strings.Join(lines, "\n")+"\n", want, deskOf(t, "2:0,3:0", 12), []int{13, 14, 15})
}
