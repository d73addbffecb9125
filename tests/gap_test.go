package tests

// Promise 8: gaps of a period are together the period, and covers have one rule for each prime.

import (
	"math"
	"slices"
	"testing"

	"loop.example/g01235/impl"
)

// mostWindow and mostPairApart are the greatest width of a window and the greatest distance of a pair.
const mostWindow = 200
const mostPairApart = 1000

// roundGaps is what rules leave of a period of at most 60: its gaps, the greatest one and the first number behind which it is, and the longest run that is left (0 if it is not asked for).
type roundGaps struct {
	rules           string
	gaps            []int
	longest, behind int
	runLeft         int
}

// knownGaps have rules by which 0 is left and by which it is not, by which just one number is left, greatest gaps that come again, and gaps and runs that go on behind the period.
func knownGaps() []roundGaps {
	return []roundGaps{
		{"-", []int{1}, 1, 0, 0},
		{"2:0", []int{2}, 2, 1, 1}, {"2:1", []int{2}, 2, 0, 1}, {"2:0,2:0", []int{2}, 2, 1, 1},
		{"3:0", []int{1, 2}, 2, 2, 2}, {"3:1", []int{2, 1}, 2, 0, 2}, {"3:2", []int{1, 2}, 2, 1, 2},
		{"2:0,3:0", []int{4, 2}, 4, 1, 1}, {"3:0,2:0", []int{4, 2}, 4, 1, 1}, {"2:0,3:0,3:0,2:0", []int{4, 2}, 4, 1, 1}, {"2:0,3:1", []int{2, 4}, 4, 5, 1},
		{"2:0,4:2", []int{2, 2}, 2, 1, 1}, {"4:0,4:2", []int{2, 2}, 2, 1, 1}, {"4:1,4:3", []int{2, 2}, 2, 0, 1}, {"6:1,6:4", []int{2, 1, 2, 1}, 2, 0, 2},
		{"2:0,3:0,3:1", []int{6}, 6, 5, 1}, {"2:1,3:1,3:2", []int{6}, 6, 0, 1},
		{"5:2", []int{1, 2, 1, 1}, 2, 1, 4}, {"7:1,7:2,7:4", []int{3, 2, 1, 1}, 3, 0, 3}, {"8:1,8:2,8:5", []int{3, 1, 2, 1, 1}, 3, 0, 3},
		{"4:0,6:1", []int{1, 2, 1, 3, 1, 1, 3}, 3, 6, 3}, {"12:1,12:5,12:7,12:11", []int{2, 1, 1, 2, 2, 1, 1, 2}, 2, 0, 3},
		{"2:0,3:0,5:0", []int{6, 4, 2, 4, 2, 4, 6, 2}, 6, 1, 1},
		{"60:0", append(slices.Repeat([]int{1}, 58), 2), 2, 59, 59}, {"60:59", append(slices.Repeat([]int{1}, 58), 2), 2, 58, 59},
		{"60:30", slices.Concat(slices.Repeat([]int{1}, 29), []int{2}, slices.Repeat([]int{1}, 29)), 2, 29, 59},
		{"2:0,2:0,2:0,2:0,2:0,2:0,2:0,2:0,2:0,2:0,2:0,2:0", []int{2}, 2, 1, 1},
	}
}

// gapsCounted is what rules with a greater period leave of it: the period, how many gaps of each size there are, the greatest one and the first number behind which it is, and the longest run that is left.
type gapsCounted struct {
	rules           string
	period          int
	counts          map[int]int
	longest, behind int
	runLeft         int
}

// knownLongGaps have the greatest periods that there are just under 100000, which itself is none, as 5^5 does not come of an Every up to 60, and twelve rules.
func knownLongGaps() []gapsCounted {
	most := map[int]int{1: 27347, 2: 27347, 3: 5414, 4: 180, 5: 180, 6: 12}
	nearMost := map[int]int{1: 12690, 2: 12690, 3: 12500, 4: 2150, 5: 2280, 6: 532, 7: 142, 8: 12, 9: 12}
	ofSix := map[int]int{2: 1485, 4: 1485, 6: 1690, 8: 394, 10: 438, 12: 188, 14: 58, 16: 12, 18: 8, 22: 2}
	return []gapsCounted{
		{"3:0,25:0,31:0,43:0", 99975, most, 6, 22099, 2}, {"43:42,31:30,25:24,3:2", 99975, most, 6, 22098, 2},
		{"8:0,3:0,5:0,49:0,17:0", 99960, nearMost, 9, 2102, 2}, {"8:7,3:0,5:4,49:48,17:16", 99960, nearMost, 9, 7001, 2},
		{"2:0,3:0,5:0,7:0,11:0,13:0", 30030, ofSix, 22, 9439, 1}, {"2:1,3:2,5:4,7:6,11:10,13:12", 30030, ofSix, 22, 9438, 1},
		{"2:0,4:1,8:3,16:7,32:15,3:0,3:1,9:2,9:5,27:8,27:17", 864, map[int]int{864: 1}, 864, 863, 1},
		{"2:1,4:2,8:4,16:8,32:16,3:1,3:2,9:3,9:6,27:9,27:18", 864, map[int]int{864: 1}, 864, 0, 1},
		{"2:0,4:1,8:3,16:7,32:15,3:0,3:1,9:2,9:5,27:8,27:17,5:0", 4320, map[int]int{864: 3, 1728: 1}, 1728, 2591, 1},
	}
}

// greatRules are the rules with the period 99975 that leave no multiple of 3, 25, 31 and 43.
func greatRules() []impl.Rule { return rules(3, 0, 25, 0, 31, 0, 43, 0) }

// emptyRules leave no number; the last ones have the period 99975, and those before them 60.
func emptyRules(t *testing.T) [][]impl.Rule {
	t.Helper()
	lists := [][]impl.Rule{nothingLeft(), append(oneIn864(), impl.Rule{Every: 32, Rest: 31})}
	for _, text := range []string{"2:0,2:1", "2:1,2:0", "3:2,3:0,3:1", "2:0,4:1,4:3,60:0", "3:0,25:0,31:0,43:0,3:1,3:2"} {
		lists = append(lists, readRules(t, text))
	}
	return lists
}

func TestGapsUpTo(t *testing.T) {
	for text, cases := range map[string]map[int][]int{
		"-":       {0: nil, 1: nil, 2: {1}, 3: {1, 1}, impl.MaxNumber: slices.Repeat([]int{1}, impl.MaxNumber-1)},
		"2:0":     {0: nil, 1: nil, 2: nil, 3: {2}, 4: {2}, 5: {2, 2}, impl.MaxNumber: slices.Repeat([]int{2}, 299)},
		"2:1":     {0: nil, 1: nil, 2: nil, 3: nil, 4: {2}, impl.MaxNumber: slices.Repeat([]int{2}, 299)},
		"2:0,3:0": {0: nil, 1: nil, 4: nil, 5: {4}, 6: {4}, 7: {4, 2}, 30: {4, 2, 4, 2, 4, 2, 4, 2, 4}, 599: append(slices.Repeat([]int{4, 2}, 99), 4), impl.MaxNumber: append(slices.Repeat([]int{4, 2}, 99), 4)},
		"3:0,3:0": {1: nil, 2: {1}, 3: {1}, 4: {1, 2}},
		"60:1":    {1: nil, 2: nil, 3: {1}, 62: append(slices.Repeat([]int{1}, 58), 2)},
		"2:0,2:1": {0: nil, 1: nil, 50: nil, impl.MaxNumber: nil},
		"2:0,4:1,8:3,16:7,32:15,3:0,3:1,9:2,9:5,27:8,27:17": {impl.MaxNumber: nil},
		"2:1,4:2,8:4,16:8,32:16,3:1,3:2,9:3,9:6":            {287: nil, 288: nil, 575: nil, 576: {288}, impl.MaxNumber: {288}},
		// These have periods of more than 100000, which do not matter here.
		"3:0,17:0,37:0,53:0":      {20: {1, 2, 1, 2, 1, 2, 1, 2, 1, 2, 3, 1}},
		"2:0,3:0,59:5,53:7,47:11": {20: {12, 4, 2}, 30: {12, 4, 2, 4, 2, 4}},
	} {
		for most, want := range cases {
			got, ok := impl.GapsUpTo(readRules(t, text), most)
			wantValue(t, of("GapsUpTo of "+text, most), got, ok, want)
		}
	}
	for _, most := range []int{-1, -2, impl.MaxNumber + 1, impl.MaxNumber + 2, math.MinInt, math.MaxInt} {
		for _, list := range [][]impl.Rule{nil, rules(2, 0, 3, 0)} {
			got, ok := impl.GapsUpTo(list, most)
			wantFail(t, of("GapsUpTo", most), got, ok)
		}
	}
}

func TestGapsOfPeriod(t *testing.T) {
	for _, c := range knownGaps() {
		got, ok := impl.GapsOfPeriod(readRules(t, c.rules))
		wantValue(t, "GapsOfPeriod of "+c.rules, got, ok, c.gaps)
	}
	for rest, want := range [][]int{{864, 864, 1728, 864}, {864, 1728, 864, 864}, {1728, 864, 864, 864}, {864, 864, 864, 1728}, {864, 864, 864, 1728}} {
		got, ok := impl.GapsOfPeriod(fourIn4320(rest))
		wantValue(t, "GapsOfPeriod", got, ok, want)
	}
}

// countsOf tells how many gaps of each size a list has.
func countsOf(gaps []int) map[int]int {
	counts := map[int]int{}
	for _, gap := range gaps {
		counts[gap]++
	}
	return counts
}

func TestGapsOfLongPeriods(t *testing.T) {
	for _, c := range knownLongGaps() {
		got, ok := impl.GapsOfPeriod(readRules(t, c.rules))
		wantValue(t, "the counts of GapsOfPeriod of "+c.rules, countsOf(got), ok, c.counts)
		sum := 0
		for _, gap := range got {
			sum += gap
		}
		wantValue(t, "GapsOfPeriod together", sum, ok, c.period)
	}
	for text, want := range map[string][2][]int{
		"3:0,25:0,31:0,43:0":          {{1, 2, 1, 2}, {1, 2, 1, 2}},
		"8:0,3:0,5:0,49:0,17:0":       {{1, 2, 3, 4}, {3, 2, 1, 2}},
		"8:7,3:0,5:4,49:48,17:16":     {{1, 3, 3, 2}, {2, 1, 2, 3}},
		"2:0,3:0,5:0,7:0,11:0,13:0":   {{16, 2, 4, 6}, {4, 2, 16, 2}},
		"2:1,3:2,5:4,7:6,11:10,13:12": {{16, 2, 4, 6}, {4, 2, 16, 2}},
	} {
		got, ok := impl.GapsOfPeriod(readRules(t, text))
		wantValue(t, "the first ones of GapsOfPeriod of "+text, got[:4], ok, want[0])
		wantValue(t, "the last ones of GapsOfPeriod of "+text, got[len(got)-4:], ok, want[1])
	}
}

func TestLongestGap(t *testing.T) {
	for _, c := range knownGaps() {
		gap, n, ok := impl.LongestGap(readRules(t, c.rules))
		wantValue(t, "LongestGap of "+c.rules, []int{gap, n}, ok, []int{c.longest, c.behind})
	}
	for _, c := range knownLongGaps() {
		gap, n, ok := impl.LongestGap(readRules(t, c.rules))
		wantValue(t, "LongestGap of "+c.rules, []int{gap, n}, ok, []int{c.longest, c.behind})
	}
	for rest, want := range [][]int{{1728, 2591}, {1728, 1727}, {1728, 863}, {1728, 4319}, {1728, 3455}} {
		gap, n, ok := impl.LongestGap(fourIn4320(rest))
		wantValue(t, "LongestGap", []int{gap, n}, ok, want)
	}
}

func TestCountGaps(t *testing.T) {
	for text, counts := range map[string][]int{
		"-": {1, 0, 0}, "2:0": {0, 1, 0}, "2:1": {0, 1, 0}, "2:0,2:0": {0, 1, 0}, "2:0,4:2": {0, 2, 0, 0, 0}, "3:0": {1, 1, 0}, "2:0,3:0": {0, 1, 0, 1, 0, 0, 0}, "2:0,3:0,3:1": {0, 0, 0, 0, 0, 1, 0},
		"5:2": {3, 1, 0, 0, 0, 0}, "4:0,6:1": {4, 1, 2, 0}, "2:0,3:0,5:0": {0, 3, 0, 3, 0, 2, 0, 0}, "60:0": {58, 1, 0}, "60:30": {58, 1, 0},
	} {
		for i, want := range counts {
			got, ok := impl.CountGaps(readRules(t, text), i+1)
			wantValue(t, of("CountGaps of "+text, i+1), got, ok, want)
		}
	}
	for _, c := range knownLongGaps() {
		for _, gap := range append(upTo(1, 30), 863, 864, 865, 1728, 4320, 30030, c.period-1, c.period, c.period+1) {
			got, ok := impl.CountGaps(readRules(t, c.rules), gap)
			wantValue(t, of("CountGaps of "+c.rules, gap), got, ok, c.counts[gap])
		}
	}
	for _, list := range [][]impl.Rule{nil, rules(2, 0, 3, 0), greatRules()} {
		for _, gap := range []int{100000, 100001, math.MaxInt} {
			got, ok := impl.CountGaps(list, gap)
			wantValue(t, of("CountGaps", gap), got, ok, 0)
		}
		for _, gap := range []int{0, -1, -2, -4, math.MinInt} {
			got, ok := impl.CountGaps(list, gap)
			wantFail(t, of("CountGaps", gap), got, ok)
		}
	}
}

func TestRecordGaps(t *testing.T) {
	for text, cases := range map[string]map[int][][]int{
		"-":                         {0: nil, 1: nil, 2: {{1, 1}}, 3: {{1, 1}}, impl.MaxNumber: {{1, 1}}},
		"2:0":                       {2: nil, 3: {{1, 2}}, impl.MaxNumber: {{1, 2}}},
		"2:1":                       {3: nil, 4: {{2, 2}}, 100: {{2, 2}}},
		"2:0,3:0":                   {0: nil, 1: nil, 4: nil, 5: {{1, 4}}, 7: {{1, 4}}, impl.MaxNumber: {{1, 4}}},
		"2:0,3:1":                   {3: nil, 4: nil, 5: {{3, 2}}, 8: {{3, 2}}, 9: {{3, 2}, {5, 4}}, impl.MaxNumber: {{3, 2}, {5, 4}}},
		"3:0":                       {1: nil, 2: {{1, 1}}, 3: {{1, 1}}, 4: {{1, 1}, {2, 2}}, 30: {{1, 1}, {2, 2}}},
		"4:0,6:1":                   {2: nil, 3: {{2, 1}}, 5: {{2, 1}, {3, 2}}, 8: {{2, 1}, {3, 2}}, 9: {{2, 1}, {3, 2}, {6, 3}}, impl.MaxNumber: {{2, 1}, {3, 2}, {6, 3}}},
		"2:0,3:0,5:0,7:0,11:0,13:0": {16: nil, 17: {{1, 16}}, impl.MaxNumber: {{1, 16}}},
		"2:0,3:2,5:4,7:6,11:0,13:0": {7: {{1, 2}, {3, 4}}, 14: {{1, 2}, {3, 4}}, 15: {{1, 2}, {3, 4}, {7, 8}}, 100: {{1, 2}, {3, 4}, {7, 8}}, impl.MaxNumber: {{1, 2}, {3, 4}, {7, 8}, {93, 10}, {243, 12}, {397, 14}}},
		"2:0,2:1":                   {0: nil, impl.MaxNumber: nil},
		"60:2":                      {2: nil, 3: {{1, 2}}, 4: {{1, 2}}, impl.MaxNumber: {{1, 2}}},
		// This has a period of more than 100000, which does not matter here.
		"2:0,3:0,59:5,53:7,47:11": {12: nil, 13: {{1, 12}}, impl.MaxNumber: {{1, 12}}},
	} {
		for most, want := range cases {
			got, ok := impl.RecordGaps(readRules(t, text), most)
			wantValue(t, of("RecordGaps of "+text, most), got, ok, want)
		}
	}
	for _, most := range []int{-1, -2, impl.MaxNumber + 1, impl.MaxNumber + 2, math.MinInt, math.MaxInt} {
		for _, list := range [][]impl.Rule{nil, rules(2, 0, 3, 0)} {
			got, ok := impl.RecordGaps(list, most)
			wantFail(t, of("RecordGaps", most), got, ok)
		}
	}
}

func TestLongestRuns(t *testing.T) {
	for _, c := range knownGaps() {
		list := readRules(t, c.rules)
		got, ok := impl.LongestRunOut(list)
		wantValue(t, "LongestRunOut of "+c.rules, got, ok, c.longest-1)
		got, ok = impl.LongestRunLeft(list)
		if len(list) == 0 {
			wantFail(t, "LongestRunLeft of no rules", got, ok)
			continue
		}
		wantValue(t, "LongestRunLeft of "+c.rules, got, ok, c.runLeft)
	}
	for _, c := range knownLongGaps() {
		got, ok := impl.LongestRunOut(readRules(t, c.rules))
		wantValue(t, "LongestRunOut of "+c.rules, got, ok, c.longest-1)
		got, ok = impl.LongestRunLeft(readRules(t, c.rules))
		wantValue(t, "LongestRunLeft of "+c.rules, got, ok, c.runLeft)
	}
	for text, want := range map[string]int{"10:3,15:4": 9, "59:58": 58, "59:0,53:0": 52, "4:1": 3, "4:1,6:3": 3} {
		got, ok := impl.LongestRunLeft(readRules(t, text))
		wantValue(t, "LongestRunLeft of "+text, got, ok, want)
	}
}

func TestWindows(t *testing.T) {
	for text, widths := range map[string]map[int][2]int{
		"-":           {0: {0, 0}, 1: {1, 1}, 2: {2, 2}, 199: {199, 199}, mostWindow: {200, 200}},
		"2:0":         {0: {0, 0}, 1: {1, 0}, 2: {1, 1}, 3: {2, 1}, 4: {2, 2}, 199: {100, 99}, mostWindow: {100, 100}},
		"2:1":         {0: {0, 0}, 1: {1, 0}, 2: {1, 1}, 3: {2, 1}, mostWindow: {100, 100}},
		"3:0":         {0: {0, 0}, 1: {1, 0}, 2: {2, 1}, 3: {2, 2}, 4: {3, 2}, 5: {4, 3}, 6: {4, 4}, mostWindow: {134, 133}},
		"2:0,3:0":     {0: {0, 0}, 1: {1, 0}, 2: {1, 0}, 3: {2, 0}, 4: {2, 1}, 5: {2, 1}, 6: {2, 2}, 7: {3, 2}, 8: {3, 2}, 9: {4, 2}, 12: {4, 4}, mostWindow: {67, 66}},
		"2:0,3:0,3:1": {0: {0, 0}, 1: {1, 0}, 5: {1, 0}, 6: {1, 1}, 7: {2, 1}, 12: {2, 2}, mostWindow: {34, 33}},
		"60:30":       {0: {0, 0}, 1: {1, 0}, 2: {2, 1}, 59: {59, 58}, 60: {59, 59}, 61: {60, 59}, 120: {118, 118}, mostWindow: {197, 196}},
		"59:0":        {58: {58, 57}, 59: {58, 58}, 60: {59, 58}, mostWindow: {197, 196}},
		"7:1,7:2,7:4": {1: {1, 0}, 2: {2, 0}, 3: {3, 1}, 4: {3, 1}, 5: {4, 2}, 6: {4, 3}, 7: {4, 4}, 8: {5, 4}},
	} {
		for width, want := range widths {
			wantWindows(t, text, width, want)
		}
	}
	for _, text := range []string{"3:0,25:0,31:0,43:0", "43:42,31:30,25:24,3:2"} {
		for width, want := range map[int][2]int{0: {0, 0}, 1: {1, 0}, 2: {2, 0}, 3: {2, 0}, 10: {7, 3}, 30: {20, 16}, 100: {63, 58}, 199: {125, 117}, mostWindow: {126, 118}} {
			wantWindows(t, text, width, want)
		}
	}
	for _, text := range []string{"8:0,3:0,5:0,49:0,17:0", "8:7,3:0,5:4,49:48,17:16"} {
		for width, want := range map[int][2]int{0: {0, 0}, 1: {1, 0}, 2: {2, 0}, 3: {2, 0}, 10: {6, 1}, 30: {15, 10}, 100: {47, 39}, 199: {90, 81}, mostWindow: {90, 82}} {
			wantWindows(t, text, width, want)
		}
	}
	for _, text := range []string{"2:0,4:1,8:3,16:7,32:15,3:0,3:1,9:2,9:5,27:8,27:17", "2:1,4:2,8:4,16:8,32:16,3:1,3:2,9:3,9:6,27:9,27:18"} {
		for width, want := range map[int][2]int{0: {0, 0}, 1: {1, 0}, 2: {1, 0}, 199: {1, 0}, mostWindow: {1, 0}} {
			wantWindows(t, text, width, want)
		}
	}
}

// wantWindows checks the greatest and the least number that is left of windows.
func wantWindows(t *testing.T, text string, width int, want [2]int) {
	t.Helper()
	most, ok := impl.MostInWindow(readRules(t, text), width)
	wantValue(t, of("MostInWindow of "+text, width), most, ok, want[0])
	least, ok := impl.LeastInWindow(readRules(t, text), width)
	wantValue(t, of("LeastInWindow of "+text, width), least, ok, want[1])
}

func TestNoWindows(t *testing.T) {
	for _, width := range []int{-1, -2, mostWindow + 1, mostWindow + 2, 1 << 32, math.MinInt, math.MaxInt} {
		for _, list := range [][]impl.Rule{nil, rules(2, 0, 3, 0), greatRules()} {
			most, ok := impl.MostInWindow(list, width)
			wantFail(t, of("MostInWindow", width), most, ok)
			least, ok := impl.LeastInWindow(list, width)
			wantFail(t, of("LeastInWindow", width), least, ok)
		}
	}
}

func TestPairsInPeriod(t *testing.T) {
	for text, pairs := range map[string]map[int]int{
		"-":           {0: 1, 1: 1, 999: 1, mostPairApart: 1},
		"2:0":         {0: 1, 1: 0, 2: 1, 3: 0, 999: 0, mostPairApart: 1},
		"2:1":         {0: 1, 1: 0, 2: 1, 999: 0, mostPairApart: 1},
		"3:0":         {0: 2, 1: 1, 2: 1, 3: 2, 4: 1, 999: 2, mostPairApart: 1},
		"2:0,3:0":     {0: 2, 1: 0, 2: 1, 3: 0, 4: 1, 5: 0, 6: 2, 8: 1, 12: 2, 996: 2, 999: 0, mostPairApart: 1},
		"2:0,3:0,3:1": {0: 1, 1: 0, 2: 0, 6: 1, 996: 1, mostPairApart: 0},
		"2:0,3:0,5:0": {0: 8, 1: 0, 2: 3, 4: 3, 6: 6, 10: 4, 30: 8, 60: 8, 990: 8, 992: 3, mostPairApart: 4},
		"60:30":       {0: 59, 1: 58, 30: 58, 60: 59, 960: 59, mostPairApart: 58},
	} {
		for apart, want := range pairs {
			got, ok := impl.PairsInPeriod(readRules(t, text), apart)
			wantValue(t, of("PairsInPeriod of "+text, apart), got, ok, want)
		}
	}
	for text, want := range map[string][]int{
		"3:0,25:0,31:0,43:0":                                    {60480, 27347, 27347, 54694, 54694, 54694, 54694, 28536},
		"8:7,3:0,5:4,49:48,17:16":                               {43008, 12690, 12690, 25380, 33840, 29610, 25380, 19740},
		"2:0,3:0,5:0,7:0,11:0,13:0":                             {5760, 0, 1485, 0, 3960, 2970, 0, 1980},
		"2:1,3:2,5:4,7:6,11:10,13:12":                           {5760, 0, 1485, 0, 3960, 2970, 0, 1980},
		"2:0,4:1,8:3,16:7,32:15,3:0,3:1,9:2,9:5,27:8,27:17,5:0": {4, 0, 0, 0, 0, 3, 0, 0},
	} {
		for i, apart := range []int{0, 1, 2, 3, 30, 864, 999, mostPairApart} {
			got, ok := impl.PairsInPeriod(readRules(t, text), apart)
			wantValue(t, of("PairsInPeriod of "+text, apart), got, ok, want[i])
		}
	}
	for _, apart := range []int{-1, -2, -6, mostPairApart + 1, mostPairApart + 2, 1 << 32, math.MinInt, math.MaxInt} {
		for _, list := range [][]impl.Rule{nil, rules(2, 0, 3, 0), greatRules()} {
			got, ok := impl.PairsInPeriod(list, apart)
			wantFail(t, of("PairsInPeriod", apart), got, ok)
		}
	}
}

// TestEmptyAndLongPeriods has rules that leave no number, and rules with a period of more than 100000: what looks at a whole period fails, and nothing else does.
func TestEmptyAndLongPeriods(t *testing.T) {
	for _, list := range append(emptyRules(t), longPeriods()...) {
		for _, n := range []int{0, 1, 2, 6, 100, mostWindow} {
			for _, c := range periodCalls(list, n) {
				wantZeros(t, of(c.name, n), wantNoPanic(t, c))
			}
			for _, c := range plainGapCalls(list, n%impl.MaxCover) {
				wantSuccess(t, c)
			}
		}
	}
	for _, list := range emptyRules(t) {
		gaps, ok := impl.GapsUpTo(list, impl.MaxNumber)
		wantValue(t, "GapsUpTo of rules that leave no number", gaps, ok, []int{})
		records, ok := impl.RecordGaps(list, impl.MaxNumber)
		wantValue(t, "RecordGaps of rules that leave no number", records, ok, [][]int{})
		covered, ok := impl.IsCover(list, impl.MaxCover)
		wantValue(t, "IsCover of rules that leave no number", covered, ok, true)
	}
}

// TestExampleOfGaps has what the document's example says.
func TestExampleOfGaps(t *testing.T) {
	list := readRules(t, "2:0,3:0")
	gaps, ok := impl.GapsOfPeriod(list)
	wantValue(t, "GapsOfPeriod", gaps, ok, []int{4, 2})
	gaps, ok = impl.GapsUpTo(list, 11)
	wantValue(t, "GapsUpTo", gaps, ok, []int{4, 2, 4})
	gap, n, ok := impl.LongestGap(list)
	wantValue(t, "LongestGap", []int{gap, n}, ok, []int{4, 1})
	run, ok := impl.LongestRunOut(list)
	wantValue(t, "LongestRunOut", run, ok, 3)
	cover, ok := impl.FirstCover([]int{2, 3}, 3)
	wantValue(t, "FirstCover", cover, ok, readRules(t, "2:1,3:2"))
	most, ok := impl.MostCovered([]int{2, 3, 5})
	wantValue(t, "MostCovered", most, ok, 5)
}
