package tests

// Promise 10 for many desks, lines and scripts: each reply is that of the call that a line names, and functions agree with each other.

import (
	"math/rand"
	"regexp"
	"slices"
	"strconv"
	"strings"
	"testing"

	"loop.example/g01235/impl"
)

// These match the lines of the document's table; what is a RulesText is looked at further.
var (
	wordLines   = regexp.MustCompile(`^(mirror|tidy|show|left|count|period|spokes|steps)$`)
	numberLines = regexp.MustCompile(`^(drop|most|move|primes|rank|factors|pi|divisors|totient|pattern) (0|[1-9][0-9]{0,5})$`)
	rulesLines  = regexp.MustCompile(`^(rules|add) (-|[0-9]{1,2}:[0-9]{1,2}(,[0-9]{1,2}:[0-9]{1,2})*)$`)
	answerLines = regexp.MustCompile(`^(answer) ([^ ]*)$`)
)

// calledBy returns the call that a line names, and its arguments. There is none if the reply is what.
func calledBy(t *testing.T, line string) (word string, n int, list []impl.Rule, other string) {
	t.Helper()
	if m := wordLines.FindStringSubmatch(line); m != nil {
		return m[1], 0, nil, ""
	}
	if m := numberLines.FindStringSubmatch(line); m != nil {
		n, err := strconv.Atoi(m[2])
		if err != nil {
			t.Fatal("the test has a wrong number", line)
		}
		return m[1], n, nil, ""
	}
	if m := rulesLines.FindStringSubmatch(line); m != nil {
		if list := readRules(t, m[2]); impl.AreRules(list) && textOf(list) == m[2] {
			return m[1], 0, list, ""
		}
	}
	if m := answerLines.FindStringSubmatch(line); m != nil {
		return m[1], 0, nil, m[2]
	}
	return "", 0, nil, ""
}

// saidOf writes the results of a call: a number, a list, a list of lists, or a text.
func saidOf(values ...any) string {
	if values[len(values)-1] == false {
		return "no"
	}
	switch v := values[0].(type) {
	case int:
		return strconv.Itoa(v)
	case string:
		return v
	case []int:
		if len(v) > 0 {
			return strings.ReplaceAll(wordsOf(v), " ", ",")
		}
	case []impl.Rule:
		return textOf(v)
	case [][]int:
		said := ""
		for _, list := range v {
			said += "/" + strings.ReplaceAll(wordsOf(list), " ", ",")
		}
		if said != "" {
			return said[1:]
		}
	}
	return "-"
}

// plainChange returns the desk behind a line with an effect, and whether all is there that the line needs. It is told last whether the line has an effect.
func plainChange(d impl.Desk, word string, n int, list []impl.Rule) (behind impl.Desk, ok bool, isChange bool) {
	behind = d
	switch word {
	case "rules":
		behind.Rules, ok = list, true
	case "add":
		behind.Rules = slices.Concat(d.Rules, list)
		ok = len(behind.Rules) <= impl.MaxRules
	case "drop":
		if ok = n < len(d.Rules); ok {
			behind.Rules = without(d.Rules, n)
		}
	case "most":
		behind.Most, ok = n, n <= impl.MaxNumber
	case "move":
		behind.Rules, ok = impl.MoveRules(d.Rules, n)
	case "mirror":
		behind.Rules, ok = impl.MirrorRules(d.Rules)
	case "tidy":
		behind.Rules, ok = impl.DropNeedless(d.Rules)
	case "primes":
		behind.Rules, ok = impl.RulesOfPrimes(n)
	default:
		return d, false, false
	}
	return behind, ok, true
}

// plainReply returns the reply to a line without an effect.
func plainReply(d impl.Desk, word string, n int, other string) string {
	switch word {
	case "show":
		return textOf(d.Rules)
	case "left":
		return saidOf(results(impl.LeftUpTo(d.Rules, d.Most))...)
	case "count":
		return saidOf(results(impl.CountLeft(d.Rules, d.Most))...)
	case "period":
		return saidOf(results(impl.PeriodOfRules(d.Rules))...)
	case "spokes":
		return saidOf(results(impl.SpokesOf(d.Rules))...)
	case "steps":
		return saidOf(results(impl.StepsOf(d.Rules))...)
	case "rank":
		return saidOf(results(impl.SpokeOfRank(d.Rules, n))...)
	case "factors":
		return saidOf(results(impl.FactorsOf(n))...)
	case "pi":
		return saidOf(results(impl.CountPrimes(n))...)
	case "divisors":
		return saidOf(results(impl.DivisorsOf(n))...)
	case "totient":
		return saidOf(results(impl.TotientOf(n))...)
	case "pattern":
		return saidOf(results(impl.PatternOf(d.Rules, n))...)
	case "answer":
		if p, ok := impl.ParsePuzzle(other); ok {
			return saidOf(results(impl.FirstAnswer(p))...)
		}
		return "no"
	}
	return "what"
}

// plainLine returns the desk behind a line, and the reply.
func plainLine(t *testing.T, d impl.Desk, line string) (impl.Desk, string) {
	t.Helper()
	word, n, list, other := calledBy(t, line)
	behind, ok, isChange := plainChange(d, word, n, list)
	if !isChange {
		return d, plainReply(d, word, n, other)
	}
	if !ok {
		return d, "no"
	}
	return behind, textOf(behind.Rules)
}

// wantPlainLine checks a line, and returns the reply.
func wantPlainLine(t *testing.T, d impl.Desk, line string) string {
	t.Helper()
	behind, reply := plainLine(t, d, line)
	wantLine(t, d, line, behind, reply)
	return reply
}

// someDesks returns desks, the same ones for each run.
func someDesks(count int, seed int64) []impl.Desk {
	random := rand.New(rand.NewSource(seed))
	mosts := []int{0, 1, 30, impl.MaxNumber - 1, impl.MaxNumber}
	desks := make([]impl.Desk, count)
	for i, list := range someRules(count, seed) {
		// Every second desk has a few rules only, so that periods are short.
		if i%2 == 0 {
			list = list[:min(len(list), random.Intn(4))]
		}
		desks[i] = impl.Desk{Rules: list, Most: random.Intn(impl.MaxNumber + 1)}
		if random.Intn(4) == 0 {
			desks[i].Most = mosts[random.Intn(len(mosts))]
		}
	}
	return desks
}

// someNumber returns a number that is small, near a limit or anywhere in 0..999999.
func someNumber(random *rand.Rand) int {
	limits := []int{impl.MaxRules, impl.MaxPattern, impl.MaxNumber, impl.MaxCounted, 999998}
	switch random.Intn(5) {
	case 0:
		return random.Intn(1000000)
	case 1:
		return limits[random.Intn(len(limits))] + random.Intn(4) - 1
	case 2:
		return random.Intn(impl.MaxNumber)
	}
	return random.Intn(13)
}

// someLine returns a line of the document's table, or in one of eight cases one with a byte more, less or changed.
func someLine(random *rand.Rand, list []impl.Rule, p impl.Puzzle) string {
	line := []string{"mirror", "tidy", "show", "left", "count", "period", "spokes", "steps"}[random.Intn(8)]
	switch kind := random.Intn(10); {
	case kind < 2:
		line = []string{"rules ", "add ", "add "}[random.Intn(3)] + textOf(list)
	case kind < 3:
		line = "answer " + p.Pattern + ":" + strconv.Itoa(p.Rules)
	case kind < 7:
		line = numberedLines()[random.Intn(10)] + " " + strconv.Itoa(someNumber(random))
	}
	if random.Intn(8) > 0 {
		return line
	}
	at := random.Intn(len(line) + 1)
	other := []string{" ", "0", "1", "-", "\t", "\xff", "x", ",", ""}[random.Intn(9)]
	return line[:at] + other + line[min(at+random.Intn(2), len(line)):]
}

// someLines returns lines, the same ones for each run.
func someLines(count int, seed int64) []string {
	random := rand.New(rand.NewSource(seed))
	lists, puzzles := someRules(count, seed), somePuzzles(count, seed)
	lines := make([]string, count)
	for i := range lines {
		list := lists[i]
		if random.Intn(4) > 0 {
			list = list[:min(len(list), random.Intn(4))]
		}
		lines[i] = someLine(random, list, puzzles[i])
	}
	return lines
}

// TestLinesArePlain has each line at some desks.
func TestLinesArePlain(t *testing.T) {
	desks := append(someDesks(2000, 171), impl.FirstDesk(), deskOf(t, "-", 0), deskOf(t, twelve, 600), deskOf(t, tooLong, 30), deskOf(t, noneLeft, 30))
	found := map[string]int{}
	for i, line := range someLines(8000, 172) {
		reply := wantPlainLine(t, desks[i%len(desks)], line)
		if word, _, _ := strings.Cut(line, " "); reply != "what" {
			found[word]++
		}
		if reply == "no" || reply == "what" {
			found[reply]++
		}
	}
	for _, word := range append(numberedLines(), "rules", "add", "answer", "mirror", "tidy", "show", "left", "count", "period", "spokes", "steps", "no", "what") {
		if found[word] < 50 {
			t.Error("the test has too few lines of a kind:", word, found[word])
		}
	}
}

// TestOrdinaryLinesArePlain has all lines of the table, and lines near them, at many desks.
func TestOrdinaryLinesArePlain(t *testing.T) {
	for line := range ordinaryLines() {
		for _, d := range someDesks(300, 173) {
			wantPlainLine(t, d, line)
		}
		for _, near := range nearLines(line) {
			for _, d := range someDesks(5, 174) {
				wantPlainLine(t, d, near)
			}
		}
	}
}

// TestNumbersArePlain has each line with a number with all numbers near its limits.
func TestNumbersArePlain(t *testing.T) {
	desks := append(someDesks(6, 175), impl.FirstDesk(), deskOf(t, twelve, 30))
	for _, word := range numberedLines() {
		for _, n := range slices.Concat(upTo(0, 70), upTo(590, 610), upTo(9990, 10010), upTo(999990, 1000010)) {
			for _, d := range desks {
				wantPlainLine(t, d, word+" "+strconv.Itoa(n))
			}
		}
	}
}

// TestWordsArePlain has lines of all words that some line has, one to three of them.
func TestWordsArePlain(t *testing.T) {
	words := []string{"", "fly", "0", "1", "12", "600", "-", "2:0", "3:1,2:0", "oxo?ox:1", "o:0", "12:0", "\t", "\x00"}
	for line := range ordinaryLines() {
		word, _, _ := strings.Cut(line, " ")
		words = append(words, word)
	}
	for _, d := range []impl.Desk{impl.FirstDesk(), deskOf(t, twelve, 0)} {
		for _, word := range words {
			wantPlainLine(t, d, word)
			for _, other := range words {
				wantPlainLine(t, d, word+" "+other)
				for _, third := range []string{"", "1", "-", "2:0", "o:0", "show"} {
					wantPlainLine(t, d, word+" "+other+" "+third)
				}
			}
		}
	}
}

// TestBytesOfLines has each byte anywhere in a line, put in or instead of another one.
func TestBytesOfLines(t *testing.T) {
	d := impl.FirstDesk()
	for line := range ordinaryLines() {
		for at := range len(line) + 1 {
			for b := range 256 {
				if b == '\n' {
					continue
				}
				sign := string([]byte{byte(b)})
				wantPlainLine(t, d, line[:at]+sign+line[at:])
				wantPlainLine(t, d, line[:at]+sign+line[min(at+1, len(line)):])
			}
		}
	}
}

// TestShortNumberWords has all words of up to four of some bytes.
func TestShortNumberWords(t *testing.T) {
	words := []string{""}
	for range 4 {
		var longer []string
		for _, word := range words {
			for _, sign := range []string{"0", "1", "9", "+", "-", "a", " ", "_", ":", ","} {
				longer = append(longer, word+sign)
			}
		}
		words = longer
		for _, word := range words {
			wantPlainLine(t, impl.FirstDesk(), "most "+word)
			wantPlainLine(t, impl.FirstDesk(), "pi "+word)
		}
	}
}

// TestShortRulesWords has all words of up to five of some bytes.
func TestShortRulesWords(t *testing.T) {
	words := []string{""}
	for range 5 {
		var longer []string
		for _, word := range words {
			for _, sign := range []string{"0", "1", "2", "6", ":", ",", "-", " "} {
				longer = append(longer, word+sign)
			}
		}
		words = longer
		for _, word := range words {
			wantPlainLine(t, impl.FirstDesk(), "rules "+word)
		}
	}
}

// someScripts returns scripts, the same ones for each run, with up to MaxLines lines.
func someScripts(count int, seed int64) []string {
	random := rand.New(rand.NewSource(seed))
	scripts := make([]string, count)
	for i, lines := 0, someLines(40*count, seed); i < count; i++ {
		script := ""
		for range random.Intn(impl.MaxLines + 1) {
			line := lines[random.Intn(len(lines))] + "\n"
			if len(script)+len(line) <= impl.MaxScript {
				script += line
			}
		}
		scripts[i] = script
	}
	return scripts
}

// linesOf returns the lines of a script, one after the other.
func linesOf(script string) []string {
	var lines []string
	for script != "" {
		at := strings.IndexByte(script, '\n')
		lines = append(lines, script[:at])
		script = script[at+1:]
	}
	return lines
}

// TestScriptsAreLines has RunScript, DeskAfter and FailedLines with DeskLine, line by line, from FirstDesk on.
func TestScriptsAreLines(t *testing.T) {
	longest := 0
	for _, script := range someScripts(400, 176) {
		d := impl.FirstDesk()
		var said []string
		var failed []int
		for i, line := range linesOf(script) {
			behind, reply, ok := impl.DeskLine(d, line)
			if !ok || !impl.IsDesk(behind) {
				t.Fatal(nameOfLine(d, line), "is", behind, reply, ok)
			}
			if reply == "no" || reply == "what" {
				failed = append(failed, i+1)
			}
			said = append(said, reply)
			d = behind
		}
		wantScript(t, script, said, d, failed)
		longest = max(longest, len(said))
	}
	if longest < impl.MaxLines-5 {
		t.Error("the test has no long scripts:", longest)
	}
}

// TestScriptsArePlain has scripts with what their calls return.
func TestScriptsArePlain(t *testing.T) {
	for _, script := range someScripts(200, 177) {
		d := impl.FirstDesk()
		said := make([]string, len(linesOf(script)))
		for i, line := range linesOf(script) {
			d, said[i] = plainLine(t, d, line)
		}
		got, ok := impl.RunScript(script)
		wantValue(t, "RunScript of "+script, got, ok, said)
		after, ok := impl.DeskAfter(script)
		wantValue(t, "DeskAfter "+script, after, ok, d)
	}
}

// TestFailedLinesAgree has FailedLines with RunScript.
func TestFailedLinesAgree(t *testing.T) {
	counted := 0
	for _, script := range someScripts(300, 178) {
		replies, ok := impl.RunScript(script)
		numbers, fine := impl.FailedLines(script)
		var want []int
		for i, reply := range replies {
			if reply == "no" || reply == "what" {
				want = append(want, i+1)
			}
		}
		wantValue(t, "FailedLines of "+script, numbers, ok && fine, want)
		counted += len(want)
	}
	if counted < 500 {
		t.Error("the test has too few lines that fail:", counted)
	}
}

// TestFailedLinesChangeNothing has lines whose reply is no or what at many desks, and scripts without them.
func TestFailedLinesChangeNothing(t *testing.T) {
	desks := someDesks(1000, 179)
	for i, line := range someLines(4000, 180) {
		d := desks[i%len(desks)]
		behind, reply, ok := impl.DeskLine(d, line)
		if reply == "no" || reply == "what" {
			wantValue(t, "the desk behind "+nameOfLine(d, line), behind, ok, d)
		}
	}
	for _, script := range someScripts(200, 181) {
		failed, _ := impl.FailedLines(script)
		after, ok := impl.DeskAfter(script)
		rest := ""
		for i, line := range linesOf(script) {
			if !slices.Contains(failed, i+1) {
				rest += line + "\n"
			}
		}
		same, fine := impl.DeskAfter(rest)
		wantValue(t, "DeskAfter the lines that do not fail of "+script, same, ok && fine, after)
		none, ok := impl.FailedLines(rest)
		wantValue(t, "FailedLines of the others of "+script, none, ok, []int(nil))
	}
}

// TestFirstLinesReplyFirst has that the replies to the first lines alone are the first replies.
func TestFirstLinesReplyFirst(t *testing.T) {
	for _, script := range someScripts(40, 182) {
		all, ok := impl.RunScript(script)
		failed, fine := impl.FailedLines(script)
		lines := linesOf(script)
		for count := range len(lines) + 1 {
			first := ""
			for _, line := range lines[:count] {
				first += line + "\n"
			}
			replies, fineFirst := impl.RunScript(first)
			wantValue(t, "RunScript of the first lines of "+script, replies, ok && fineFirst, all[:count])
			numbers, fineFirst := impl.FailedLines(first)
			firstFailed := slices.DeleteFunc(slices.Clone(failed), func(n int) bool { return n > count })
			wantValue(t, "FailedLines of the first lines of "+script, numbers, fine && fineFirst, firstFailed)
		}
	}
}

// TestShowTellsTheRules has that show behind a line is the reply to a line with an effect, and that its rules are those of the desk.
func TestShowTellsTheRules(t *testing.T) {
	desks := someDesks(1000, 183)
	for i, line := range someLines(3000, 184) {
		d := desks[i%len(desks)]
		behind, reply, ok := impl.DeskLine(d, line)
		_, shown, fine := impl.DeskLine(behind, "show")
		if !ok || !fine || shown != textOf(behind.Rules) {
			t.Error("show behind", nameOfLine(d, line), "is", shown)
		}
		word, _, _ := strings.Cut(line, " ")
		if slices.Contains([]string{"rules", "add", "drop", "most", "move", "mirror", "tidy", "primes"}, word) && reply != "no" && reply != "what" {
			wantValue(t, "the reply to "+nameOfLine(d, line), reply, fine, shown)
			list, ok := impl.ParseRules(reply)
			wantValue(t, "the rules behind "+nameOfLine(d, line), list, ok, behind.Rules)
		}
	}
}

// behindLines returns the desk behind lines, and the last reply.
func behindLines(t *testing.T, d impl.Desk, lines ...string) (impl.Desk, string) {
	t.Helper()
	reply := ""
	for _, line := range lines {
		behind, said, ok := impl.DeskLine(d, line)
		if !ok {
			t.Fatal(nameOfLine(d, line), "fails")
		}
		d, reply = behind, said
	}
	return d, reply
}

// TestLinesUndoEachOther has lines behind which the desk is as it was, and lines that tell the same in two ways.
func TestLinesUndoEachOther(t *testing.T) {
	for i, d := range someDesks(300, 185) {
		by := i * 2
		for _, lines := range [][]string{{"mirror", "mirror"}, {"move 0"}, {"add -"}, {"rules " + textOf(d.Rules)}, {"primes 4", "rules " + textOf(d.Rules)}, {"most 5", "most " + strconv.Itoa(d.Most)}, {"drop 12"}, {"most 601"}, {"mirror", "move " + strconv.Itoa(by), "mirror", "move " + strconv.Itoa(by)}} {
			behind, _ := behindLines(t, d, lines...)
			wantValue(t, "the desk behind "+strings.Join(lines, ", "), behind, true, d)
		}
		if len(d.Rules) < impl.MaxRules {
			behind, _ := behindLines(t, d, "add 59:7", "drop "+strconv.Itoa(len(d.Rules)))
			wantValue(t, "the desk behind add and drop", behind, true, d)
		}
		tidy, reply := behindLines(t, d, "tidy")
		again, same := behindLines(t, tidy, "tidy")
		wantValue(t, "tidy of tidy", again, reply == same, tidy)
		_, left := behindLines(t, d, "left")
		_, leftTidy := behindLines(t, tidy, "left")
		wantValue(t, "left behind tidy", leftTidy, true, left)
	}
}

// TestRepliesAgree has replies to different lines at one desk.
func TestRepliesAgree(t *testing.T) {
	for _, d := range someDesks(300, 186) {
		_, left := behindLines(t, d, "left")
		_, count := behindLines(t, d, "count")
		numbers := 0
		if left != "-" {
			numbers = strings.Count(left, ",") + 1
		}
		wantValue(t, "count at "+nameOfLine(d, ""), count, true, strconv.Itoa(numbers))
		_, spokes := behindLines(t, d, "spokes")
		_, steps := behindLines(t, d, "steps")
		_, rank := behindLines(t, d, "rank 0")
		first, _, _ := strings.Cut(spokes, ",")
		if strings.Count(spokes, ",") != strings.Count(steps, ",") || rank != first {
			t.Error("spokes, steps and rank 0 at", nameOfLine(d, ""), "are", spokes, steps, rank)
		}
		if _, pattern := behindLines(t, d, "most 48", "pattern 48"); strings.Contains(pattern, "o") {
			_, few := behindLines(t, d, "most 48", "count")
			wantValue(t, "the signs o of pattern 48 at "+nameOfLine(d, ""), strconv.Itoa(strings.Count(pattern, "o")), true, few)
		}
	}
}
