package tests

// Promise 4: ranks go far along a wheel and back.

import (
	"math"
	"slices"
	"testing"

	"loop.example/g01235/impl"
)

// fourIn4320 are MaxRules rules with the period 4320 that leave, of the five numbers in it that oneIn864 leaves, all but one.
func fourIn4320(rest int) []impl.Rule {
	return append(oneIn864(), impl.Rule{Every: 5, Rest: rest})
}

// noWheels are rules that are no wheel: the first ones leave nothing, the others have too long a period, 5005 being the least one that there is.
func noWheels(t *testing.T) [][]impl.Rule {
	t.Helper()
	lists := [][]impl.Rule{nothingLeft()}
	for _, text := range []string{"2:0,2:1", "3:2,3:0,3:1", "2:0,4:1,4:3,5:0", "5:0,7:0,11:0,13:0", "5:0,17:0,59:0", "8:0,3:0,11:0,19:0", "60:0,59:0,2:0,7:0", "3:0,25:0,31:0,43:0", "2:0,2:1,5:0,7:0,11:0,13:0"} {
		lists = append(lists, readRules(t, text))
	}
	return append(lists, longPeriods()...)
}

// greatWheels are the wheels with the longest periods that there are: 4998, 4995 and 4991.
func greatWheels() [][]impl.Rule {
	return [][]impl.Rule{rules(2, 0, 3, 0, 49, 0, 17, 0), rules(27, 0, 5, 0, 37, 0), rules(7, 0, 23, 0, 31, 0)}
}

func TestSpokesAndSteps(t *testing.T) {
	for _, c := range []struct {
		rules  string
		spokes []int
		steps  []int
	}{
		{"-", []int{1}, []int{1}},
		{"2:0", []int{1}, []int{2}},
		{"2:1", []int{2}, []int{2}},
		{"3:0", []int{1, 2}, []int{1, 2}},
		{"3:1", []int{2, 3}, []int{1, 2}},
		{"4:0", []int{1, 2, 3}, []int{1, 1, 2}},
		{"2:0,3:0", []int{1, 5}, []int{4, 2}},
		{"3:0,2:0", []int{1, 5}, []int{4, 2}},
		{"2:0,3:1", []int{3, 5}, []int{2, 4}},
		{"2:0,2:0", []int{1}, []int{2}},
		{"2:0,4:2", []int{1, 3}, []int{2, 2}},
		{"4:0,4:2", []int{1, 3}, []int{2, 2}},
		{"2:0,3:0,3:1", []int{5}, []int{6}},
		{"2:1,3:1,3:2", []int{6}, []int{6}},
		{"4:0,6:1", []int{2, 3, 5, 6, 9, 10, 11}, []int{1, 2, 1, 3, 1, 1, 3}},
		{"7:1,7:2,7:4", []int{3, 5, 6, 7}, []int{2, 1, 1, 3}},
		{"2:0,3:0,5:0", []int{1, 7, 11, 13, 17, 19, 23, 29}, []int{6, 4, 2, 4, 2, 4, 6, 2}},
		{"60:0", upTo(1, 59), append(slices.Repeat([]int{1}, 58), 2)},
		{"60:1", upTo(2, 60), append(slices.Repeat([]int{1}, 58), 2)},
	} {
		list := readRules(t, c.rules)
		spokes, ok := impl.SpokesOf(list)
		wantValue(t, "SpokesOf "+c.rules, spokes, ok, c.spokes)
		count, ok := impl.CountSpokes(list)
		wantValue(t, "CountSpokes of "+c.rules, count, ok, len(c.spokes))
		steps, ok := impl.StepsOf(list)
		wantValue(t, "StepsOf "+c.rules, steps, ok, c.steps)
	}
}

func TestSparseWheels(t *testing.T) {
	spokes, ok := impl.SpokesOf(oneIn864())
	wantValue(t, "SpokesOf", spokes, ok, []int{863})
	steps, ok := impl.StepsOf(oneIn864())
	wantValue(t, "StepsOf", steps, ok, []int{864})
	for rest, want := range [][]int{{863, 1727, 2591, 4319}, {863, 1727, 3455, 4319}, {863, 2591, 3455, 4319}, {1727, 2591, 3455, 4319}, {863, 1727, 2591, 3455}} {
		spokes, ok = impl.SpokesOf(fourIn4320(rest))
		wantValue(t, "SpokesOf", spokes, ok, want)
	}
	for rest, want := range [][]int{{864, 864, 1728, 864}, {864, 1728, 864, 864}, {1728, 864, 864, 864}, {864, 864, 864, 1728}, {864, 864, 864, 1728}} {
		steps, ok = impl.StepsOf(fourIn4320(rest))
		wantValue(t, "StepsOf", steps, ok, want)
	}
}

func TestGreatWheels(t *testing.T) {
	for i, want := range []struct{ period, count, longest, first, greatest int }{
		{4998, 1536, 10, 1711, 10}, {4995, 3744, 4, 294, 4}, {4991, 3960, 4, 90, 4},
	} {
		list := greatWheels()[i]
		count, ok := impl.CountSpokes(list)
		wantValue(t, "CountSpokes", count, ok, want.count)
		spokes, ok := impl.SpokesOf(list)
		wantValue(t, "SpokesOf", spokes, ok, plainLeft(list, 1, want.period))
		least, ok := impl.LeastPeriod(list)
		wantValue(t, "LeastPeriod", least, ok, want.period)
		longest, first, ok := impl.LongestStep(list)
		wantValue(t, "LongestStep", []int{longest, first}, ok, []int{want.longest, want.first})
		sizes, ok := impl.StepSizes(list)
		wantValue(t, "the greatest of StepSizes", sizes[len(sizes)-1], ok, want.greatest)
		symmetric, ok := impl.IsSymmetric(list)
		wantValue(t, "IsSymmetric", symmetric, ok, true)
		n, ok := impl.SpokeOfRank(list, want.count)
		wantValue(t, "SpokeOfRank", n, ok, want.period+1)
	}
}

func TestNoWheels(t *testing.T) {
	for _, list := range noWheels(t) {
		for _, n := range []int{1, 2, 3, 17, 19, 59} {
			for _, c := range wheelCalls(list, n, []int{1}) {
				wantZeros(t, c.name, wantNoPanic(t, c))
			}
		}
	}
}

func TestIsSpoke(t *testing.T) {
	for _, c := range []struct {
		rules   string
		n       int
		isSpoke bool
	}{
		{"-", 0, true}, {"-", 1, true}, {"-", impl.MaxFar, true},
		{"2:0,3:0", 0, false}, {"2:0,3:0", 1, true}, {"2:0,3:0", 2, false}, {"2:0,3:0", 5, true}, {"2:0,3:0", 6, false}, {"2:0,3:0", 7, true}, {"2:0,3:0", 9, false},
		{"2:0,3:0", 601, true}, {"2:0,3:0", 999999997, true}, {"2:0,3:0", 999999999, false}, {"2:0,3:0", impl.MaxFar, false},
		{"2:1", 0, true}, {"2:1", 1, false}, {"2:1", 2, true}, {"2:1", impl.MaxFar, true}, {"2:1", impl.MaxFar - 1, false},
		{"2:1,3:1,3:2", 0, true}, {"2:1,3:1,3:2", 6, true}, {"2:1,3:1,3:2", 3, false}, {"2:1,3:1,3:2", 999999996, true},
	} {
		got, ok := impl.IsSpoke(readRules(t, c.rules), c.n)
		wantValue(t, "IsSpoke", got, ok, c.isSpoke)
	}
	for _, n := range []int{-1, -5, impl.MaxFar + 1, impl.MaxFar + 3} {
		got, ok := impl.IsSpoke(rules(2, 0, 3, 0), n)
		wantFail(t, "IsSpoke beyond", got, ok)
	}
}

func TestSpokeOfRank(t *testing.T) {
	for _, c := range []struct {
		rules   string
		rank, n int
	}{
		{"-", 0, 1}, {"-", 1, 2}, {"-", 9, 10}, {"-", impl.MaxFar, 1000000001},
		{"2:0", 0, 1}, {"2:0", 1, 3}, {"2:0", impl.MaxFar, 2000000001}, {"2:1", 0, 2}, {"2:1", impl.MaxFar, 2000000002},
		{"2:0,3:0", 0, 1}, {"2:0,3:0", 1, 5}, {"2:0,3:0", 2, 7}, {"2:0,3:0", 3, 11}, {"2:0,3:0", 4, 13}, {"2:0,3:0", impl.MaxFar - 1, 2999999999}, {"2:0,3:0", impl.MaxFar, 3000000001},
		{"2:0,3:0,3:1", 0, 5}, {"2:0,3:0,3:1", 1, 11}, {"2:0,3:0,3:1", 9, 59}, {"2:0,3:0,3:1", impl.MaxFar, 6000000005}, {"2:1,3:1,3:2", 0, 6}, {"2:1,3:1,3:2", 1, 12},
		{"2:0,3:0,5:0", 7, 29}, {"2:0,3:0,5:0", 8, 31}, {"2:0,3:0,5:0", 9, 37}, {"2:0,3:0,5:0", impl.MaxFar - 1, 3749999999}, {"2:0,3:0,5:0", impl.MaxFar, 3750000001},
		{"60:59", 58, 60}, {"60:59", 57, 58}, {"60:59", 59, 61}, {"60:59", impl.MaxFar, 1016949153},
		{"2:0,3:0,49:0,17:0", 1535, 4997}, {"2:0,3:0,49:0,17:0", 1536, 4999}, {"2:0,3:0,49:0,17:0", impl.MaxFar, 3253906253},
	} {
		got, ok := impl.SpokeOfRank(readRules(t, c.rules), c.rank)
		wantValue(t, "SpokeOfRank of "+c.rules, got, ok, c.n)
	}
	for _, rank := range []int{-1, -2, impl.MaxFar + 1, impl.MaxFar + 2} {
		for _, list := range [][]impl.Rule{nil, rules(2, 0, 3, 0)} {
			got, ok := impl.SpokeOfRank(list, rank)
			wantFail(t, "SpokeOfRank beyond", got, ok)
		}
	}
}

// TestFarthestRanks has the wheels with the fewest spokes: the last one leads farther than all others, to no more than 10^15 by far.
func TestFarthestRanks(t *testing.T) {
	for _, c := range []struct {
		list    []impl.Rule
		rank, n int
	}{
		{oneIn864(), 0, 863}, {oneIn864(), 1, 1727}, {oneIn864(), impl.MaxFar - 1, 863999999999}, {oneIn864(), impl.MaxFar, 864000000863},
		{fourIn4320(4), 3, 3455}, {fourIn4320(4), 4, 5183}, {fourIn4320(4), impl.MaxFar - 1, 1079999999135}, {fourIn4320(4), impl.MaxFar, 1080000000863},
		{fourIn4320(0), 3, 4319}, {fourIn4320(0), 4, 5183}, {fourIn4320(0), impl.MaxFar - 1, 1079999999999}, {fourIn4320(0), impl.MaxFar, 1080000000863}, {fourIn4320(3), impl.MaxFar, 1080000001727},
	} {
		got, ok := impl.SpokeOfRank(c.list, c.rank)
		wantValue(t, "SpokeOfRank", got, ok, c.n)
	}
}

func TestRankOfSpoke(t *testing.T) {
	for _, c := range []struct {
		rules   string
		n, rank int
	}{
		{"-", 1, 0}, {"-", 2, 1}, {"-", 5000, 4999}, {"-", impl.MaxFar, 999999999},
		{"2:0,3:0", 1, 0}, {"2:0,3:0", 5, 1}, {"2:0,3:0", 7, 2}, {"2:0,3:0", 13, 4}, {"2:0,3:0", 863, 287}, {"2:0,3:0", 999999997, 333333332},
		{"2:1", 2, 0}, {"2:1", 4, 1}, {"2:1", impl.MaxFar, 499999999}, {"2:1,3:1,3:2", 6, 0}, {"2:1,3:1,3:2", 12, 1}, {"2:1,3:1,3:2", 4320, 719},
		{"3:0", 1, 0}, {"3:0", 2, 1}, {"3:0", 4, 2}, {"3:0", impl.MaxFar, 666666666},
		{"5:4", 5, 3}, {"5:4", 6, 4}, {"5:4", 3, 2}, {"5:4", impl.MaxFar, 799999999},
		{"60:59", 60, 58}, {"60:59", 61, 59}, {"7:0,11:0,13:0", impl.MaxFar, 719280719}, {"7:0,11:0,13:0", 1000, 719}, {"7:0,11:0,13:0", 1002, 720},
	} {
		got, ok := impl.RankOfSpoke(readRules(t, c.rules), c.n)
		wantValue(t, "RankOfSpoke of "+c.rules, got, ok, c.rank)
	}
	for _, c := range []struct {
		rules string
		n     int
	}{
		{"-", 0}, {"-", -1}, {"-", impl.MaxFar + 1}, {"2:1", 0}, {"2:1", -2}, {"2:1", impl.MaxFar + 2}, {"2:0,3:0", -1}, {"2:0,3:0", impl.MaxFar + 1},
		{"2:0,3:0", 2}, {"2:0,3:0", 3}, {"2:0,3:0", 6}, {"2:0,3:0", 9}, {"2:0,3:0", impl.MaxFar}, {"2:1", 1}, {"3:0", 999999999}, {"60:59", 59}, {"60:59", 119},
	} {
		got, ok := impl.RankOfSpoke(readRules(t, c.rules), c.n)
		wantFail(t, "RankOfSpoke of "+c.rules, got, ok)
	}
}

func TestSpokeNear(t *testing.T) {
	for text, cases := range map[string][][2]int{
		"-":           {{0, 0}, {1, 1}, {17, 17}, {impl.MaxFar, impl.MaxFar}},
		"2:0":         {{0, -1}, {1, 1}, {2, 1}, {impl.MaxFar, 999999999}},
		"2:1":         {{0, 0}, {1, 0}, {2, 2}, {3, 2}, {impl.MaxFar, impl.MaxFar}},
		"2:0,3:0":     {{0, -1}, {1, 1}, {2, 1}, {3, 1}, {4, 5}, {5, 5}, {6, 5}, {400, 401}, {432, 431}, {999999999, 999999997}, {impl.MaxFar, 1000000001}},
		"2:0,3:1":     {{0, -1}, {1, -1}, {2, 3}, {3, 3}, {4, 3}, {5, 5}, {6, 5}, {7, 5}, {8, 9}, {impl.MaxFar, 999999999}},
		"2:1,3:1,3:2": {{0, 0}, {2, 0}, {3, 0}, {4, 6}, {6, 6}, {9, 6}, {10, 12}, {999999999, 999999996}, {impl.MaxFar, 1000000002}},
		"3:1,3:2":     {{0, 0}, {1, 0}, {2, 3}, {3, 3}, {4, 3}, {5, 6}, {impl.MaxFar, 999999999}},
		"7:3,7:4":     {{0, 0}, {2, 2}, {3, 2}, {4, 5}, {5, 5}, {10, 9}, {11, 12}},
	} {
		for _, c := range cases {
			got, ok := impl.SpokeNear(readRules(t, text), c[0])
			wantValue(t, "SpokeNear of "+text, got, ok, c[1])
		}
	}
	for n, want := range map[int]int{0: -1, 1: -1, 400: -1, 430: -1, 431: -1, 432: 863, 863: 863, 864: 863, 1295: 863, 1296: 1727, 999999999: 999999647, impl.MaxFar: 999999647} {
		got, ok := impl.SpokeNear(oneIn864(), n)
		wantValue(t, "SpokeNear", got, ok, want)
	}
	for n, want := range map[int]int{1726: 863, 1727: 863, 1728: 2591, 3023: 2591, 3024: 3455, impl.MaxFar: 1000000511} {
		got, ok := impl.SpokeNear(fourIn4320(2), n)
		wantValue(t, "SpokeNear", got, ok, want)
	}
	for n, want := range map[int]int{0: -1, 862: -1, 863: -1, 864: 1727, 1728: 1727} {
		got, ok := impl.SpokeNear(fourIn4320(3), n)
		wantValue(t, "SpokeNear", got, ok, want)
	}
	// -1 is crossed out, and -865 is farther away.
	for n, want := range map[int]int{0: 863, 862: 863, 864: 863, 1295: 863, 1296: 1727} {
		got, ok := impl.SpokeNear(fourIn4320(4), n)
		wantValue(t, "SpokeNear", got, ok, want)
	}
	for _, n := range []int{-1, -5, impl.MaxFar + 1} {
		for _, list := range [][]impl.Rule{nil, rules(2, 0, 3, 0)} {
			got, ok := impl.SpokeNear(list, n)
			wantFail(t, "SpokeNear beyond", got, ok)
		}
	}
}

func TestLongestStep(t *testing.T) {
	for text, want := range map[string][]int{
		"-": {1, 1}, "2:0": {2, 1}, "2:1": {2, 2}, "3:0": {2, 2}, "3:1": {2, 3}, "4:0": {2, 3}, "2:0,3:0": {4, 1}, "2:0,3:1": {4, 5}, "2:0,4:2": {2, 1},
		"2:0,3:0,3:1": {6, 5}, "2:1,3:1,3:2": {6, 6}, "2:0,3:0,5:0": {6, 1}, "6:1,6:4": {2, 3}, "4:0,6:1": {3, 6}, "7:1,7:2,7:4": {3, 7}, "12:1,12:5,12:7,12:11": {2, 4}, "60:0": {2, 59}, "60:30": {2, 29}, "60:0,59:0": {3, 58},
	} {
		step, spoke, ok := impl.LongestStep(readRules(t, text))
		wantValue(t, "LongestStep of "+text, []int{step, spoke}, ok, want)
	}
	for rest, want := range [][]int{{1728, 2591}, {1728, 1727}, {1728, 863}, {1728, 4319}, {1728, 3455}} {
		step, spoke, ok := impl.LongestStep(fourIn4320(rest))
		wantValue(t, "LongestStep", []int{step, spoke}, ok, want)
	}
}

func TestCountStep(t *testing.T) {
	for text, counts := range map[string][]int{
		"-": {1, 0, 0}, "2:0": {0, 1, 0}, "2:0,3:0": {0, 1, 0, 1, 0, 0, 0}, "2:0,4:2": {0, 2, 0, 0, 0}, "4:0": {2, 1, 0, 0, 0},
		"2:0,3:0,5:0": {0, 3, 0, 3, 0, 2, 0, 0}, "2:1,3:1,3:2": {0, 0, 0, 0, 0, 1, 0}, "4:0,6:1": {4, 1, 2, 0}, "60:0": {58, 1, 0},
	} {
		for i, want := range counts {
			got, ok := impl.CountStep(readRules(t, text), i+1)
			wantValue(t, "CountStep of "+text, got, ok, want)
		}
	}
	for _, step := range []int{31, 5000, 5001, impl.MaxFar + 1, math.MaxInt} {
		got, ok := impl.CountStep(rules(2, 0, 3, 0, 5, 0), step)
		wantValue(t, "CountStep of a long step", got, ok, 0)
	}
	for step, want := range map[int]int{863: 0, 864: 3, 865: 0, 1727: 0, 1728: 1, 4320: 0} {
		got, ok := impl.CountStep(fourIn4320(1), step)
		wantValue(t, "CountStep", got, ok, want)
	}
	for _, step := range []int{0, -1, -2, -4} {
		got, ok := impl.CountStep(rules(2, 0, 3, 0), step)
		wantFail(t, "CountStep of no step", got, ok)
	}
}

func TestStepSizes(t *testing.T) {
	for text, want := range map[string][]int{
		"-": {1}, "2:0": {2}, "2:0,4:2": {2}, "3:0": {1, 2}, "2:0,3:0": {2, 4}, "2:0,3:0,5:0": {2, 4, 6}, "4:0,6:1": {1, 2, 3}, "7:1,7:2,7:4": {1, 2, 3}, "2:1,3:1,3:2": {6}, "60:0": {1, 2}, "10:3,15:4": {1, 2, 3},
		"2:0,3:0,49:0,17:0": {2, 4, 6, 8, 10}, "27:0,5:0,37:0": {1, 2, 3, 4},
	} {
		got, ok := impl.StepSizes(readRules(t, text))
		wantValue(t, "StepSizes of "+text, got, ok, want)
	}
	got, ok := impl.StepSizes(fourIn4320(2))
	wantValue(t, "StepSizes", got, ok, []int{864, 1728})
}

func TestLeastPeriod(t *testing.T) {
	for text, want := range map[string]int{
		"-": 1, "2:0": 2, "2:1": 2, "3:0": 3, "4:0": 4, "2:0,3:0": 6, "2:0,2:0": 2, "60:0": 60, "59:58": 59, "4:0,6:1": 12, "60:0,59:0": 3540, "2:0,3:0,6:1": 6,
		"2:0,4:2": 2, "4:0,4:2": 2, "4:2,2:0": 2, "4:1,4:3": 2, "6:1,6:4": 3, "6:3,3:0": 3, "6:0,6:2,6:4": 2, "8:0,8:4,3:0": 12, "12:1,12:5,12:7,12:11": 6, "2:0,60:0": 2, "2:0,60:0,58:0": 2, "2:1,59:0": 118,
	} {
		got, ok := impl.LeastPeriod(readRules(t, text))
		wantValue(t, "LeastPeriod of "+text, got, ok, want)
	}
	got, ok := impl.LeastPeriod(oneIn864())
	wantValue(t, "LeastPeriod", got, ok, 864)
	got, ok = impl.LeastPeriod(fourIn4320(2))
	wantValue(t, "LeastPeriod", got, ok, 4320)
}

func TestIsSymmetric(t *testing.T) {
	for text, want := range map[string]bool{
		"-": true, "2:0": true, "2:1": true, "3:0": true, "4:0": true, "2:0,3:0": true, "2:0,4:2": true, "4:1,4:3": true, "3:1,3:2": true, "2:1,3:1,3:2": true, "5:1,5:4": true, "60:0": true, "60:30": true, "2:0,3:0,5:0": true, "8:0,8:4,3:0": true, "12:1,12:5,12:7,12:11": true,
		"3:1": false, "3:2": false, "4:1": false, "4:3": false, "2:0,3:1": false, "2:0,3:0,3:1": false, "5:1,5:3": false, "60:59": false, "60:1": false, "59:58": false, "6:1,6:4": false, "7:1,7:2,7:4": false, "4:0,6:1": false, "10:3,15:4": false,
	} {
		got, ok := impl.IsSymmetric(readRules(t, text))
		wantValue(t, "IsSymmetric of "+text, got, ok, want)
	}
	got, ok := impl.IsSymmetric(oneIn864())
	wantValue(t, "IsSymmetric", got, ok, false)
}

func TestRollWheel(t *testing.T) {
	for _, c := range []struct {
		rules string
		prime int
		want  []int
	}{
		{"-", 2, []int{1}}, {"-", 3, []int{1, 2}}, {"-", 5, []int{1, 2, 3, 4}}, {"-", 59, upTo(1, 58)},
		{"2:0", 3, []int{1, 5}}, {"2:1", 3, []int{2, 4}}, {"3:0", 2, []int{1, 5}}, {"2:0,2:0", 3, []int{1, 5}}, {"2:0,4:2", 3, []int{1, 5, 7, 11}}, {"4:1,4:3", 3, []int{2, 4, 8, 10}},
		{"2:0,3:0", 5, []int{1, 7, 11, 13, 17, 19, 23, 29}}, {"2:0,3:0,3:1", 5, []int{11, 17, 23, 29}}, {"2:1,3:1,3:2", 5, []int{6, 12, 18, 24}},
		{"2:0,3:0,5:0", 7, plainLeft(rules(2, 0, 3, 0, 5, 0, 7, 0), 1, 210)},
		{"60:0", 59, plainLeft(rules(60, 0, 59, 0), 1, 3540)}, {"2:0,42:5", 59, plainLeft(rules(2, 0, 42, 5, 59, 0), 1, 42*59)},
		{"3:0,49:0,17:0", 2, plainLeft(rules(2, 0, 3, 0, 49, 0, 17, 0), 1, 4998)}, {"27:0,5:0", 37, plainLeft(rules(27, 0, 5, 0, 37, 0), 1, 4995)},
	} {
		got, ok := impl.RollWheel(readRules(t, c.rules), c.prime)
		wantValue(t, "RollWheel of "+c.rules, got, ok, c.want)
	}
}

func TestRollNoWheel(t *testing.T) {
	for _, c := range []struct {
		rules  string
		primes []int
	}{
		// The last two are primes, too: the greatest ones of 61 and of 63 bits.
		{"-", []int{0, 1, 4, 6, 8, 9, 15, 25, 49, 57, 58, 60, 61, 67, 121, 1009, 999999937, -1, -2, -3, -5, -59, math.MinInt, math.MaxInt, 1<<61 - 1, math.MaxInt - 24}},
		{"2:0,3:0", []int{2, 3, 0, 1, 6, 25, 49, 55, 61, -5}},
		{"4:1", []int{2}}, {"60:7", []int{2, 3, 5}}, {"10:3,49:1", []int{2, 5, 7}}, {"59:0", []int{59}}, {"2:0,60:0", []int{2, 3, 5}},
		// Periods just more than MaxWheel: 5005, 5015, 5016 and 5040.
		{"5:0,7:0,11:0", []int{13}}, {"5:0,17:0", []int{59}}, {"8:0,3:0,11:0", []int{19}}, {"5:0,9:0,16:0", []int{7}},
		{"2:0,3:0,49:0,17:0", []int{5, 59}}, {"60:0,59:0", []int{53, 7}}, {"27:0,5:0,37:0", []int{2, 31}},
		{"2:0,2:1", []int{3, 5}}, {"5:0,7:0,11:0,13:0", []int{2, 17}},
	} {
		for _, prime := range c.primes {
			got, ok := impl.RollWheel(readRules(t, c.rules), prime)
			wantFail(t, "RollWheel of "+c.rules, got, ok)
		}
	}
}

func TestRollManyRules(t *testing.T) {
	for _, count := range []int{1, 2, impl.MaxRules - 2, impl.MaxRules - 1} {
		got, ok := impl.RollWheel(manyRules(count, impl.Rule{Every: 2}), 3)
		wantValue(t, "RollWheel", got, ok, []int{1, 5})
	}
	got, ok := impl.RollWheel(manyRules(impl.MaxRules, impl.Rule{Every: 2}), 3)
	wantFail(t, "RollWheel of MaxRules rules", got, ok)
	got, ok = impl.RollWheel(oneIn864(), 5)
	wantValue(t, "RollWheel", got, ok, []int{863, 1727, 2591, 4319})
	got, ok = impl.RollWheel(oneIn864(), 7)
	wantFail(t, "RollWheel of a long period", got, ok)
	got, ok = impl.RollWheel(fourIn4320(0), 7)
	wantFail(t, "RollWheel of MaxRules rules", got, ok)
}

func TestTimesTogether(t *testing.T) {
	for text, counts := range map[string]map[int]int{
		"-":           {1: 1, 2: 1, impl.MaxWheel: 1},
		"2:0":         {1: 0, 2: 1, 3: 0, impl.MaxWheel: 1, impl.MaxWheel - 1: 0},
		"2:0,3:0":     {1: 0, 2: 1, 3: 0, 4: 1, 5: 0, 6: 2, 7: 0, 8: 1, 12: 2, 4998: 2, 4999: 0, impl.MaxWheel: 1},
		"2:0,3:0,5:0": {1: 0, 2: 3, 4: 3, 6: 6, 8: 3, 10: 4, 12: 6, 30: 8, 32: 3, 4998: 6, impl.MaxWheel: 4},
		"2:1,3:1,3:2": {1: 0, 5: 0, 6: 1, 7: 0, 4998: 1, impl.MaxWheel: 0},
		"2:0,4:2":     {1: 0, 2: 2, 3: 0, 4: 2},
	} {
		for step, want := range counts {
			got, ok := impl.TimesTogether(readRules(t, text), step)
			wantValue(t, "TimesTogether of "+text, got, ok, want)
		}
		for _, step := range []int{0, -1, -6, impl.MaxWheel + 1, impl.MaxWheel + 4} {
			got, ok := impl.TimesTogether(readRules(t, text), step)
			wantFail(t, "TimesTogether beyond", got, ok)
		}
	}
	for step, want := range map[int]int{863: 0, 864: 3, 1728: 3, 2592: 3, 3456: 3, 4320: 4, impl.MaxWheel: 0} {
		got, ok := impl.TimesTogether(fourIn4320(2), step)
		wantValue(t, "TimesTogether", got, ok, want)
	}
}

func TestFirstRun(t *testing.T) {
	for _, c := range []struct {
		rules string
		steps []int
		spoke int
	}{
		{"-", []int{1}, 1}, {"-", slices.Repeat([]int{1}, 8), 1}, {"2:0", []int{2, 2}, 1}, {"2:1", slices.Repeat([]int{2}, 8), 2}, {"2:1,3:1,3:2", []int{6, 6, 6}, 6},
		{"2:0,3:0", []int{4}, 1}, {"2:0,3:0", []int{2}, 5}, {"2:0,3:0", []int{2, 4}, 5}, {"2:0,3:0", []int{4, 2}, 1}, {"2:0,3:0", []int{4, 2, 4}, 1}, {"2:0,3:0", slices.Repeat([]int{4, 2}, 4), 1}, {"2:0,3:0", slices.Repeat([]int{2, 4}, 4), 5},
		{"2:0,3:0,5:0", []int{6}, 1}, {"2:0,3:0,5:0", []int{4}, 7}, {"2:0,3:0,5:0", []int{2}, 11}, {"2:0,3:0,5:0", []int{6, 2}, 23}, {"2:0,3:0,5:0", []int{2, 6}, 29}, {"2:0,3:0,5:0", []int{4, 2}, 7}, {"2:0,3:0,5:0", []int{2, 4, 6}, 17},
		{"2:0,3:0,5:0", []int{4, 6, 2, 6}, 19}, {"2:0,3:0,5:0", []int{6, 2, 6, 4}, 23}, {"2:0,3:0,5:0", []int{4, 2, 4, 2, 4, 6}, 7}, {"2:0,3:0,5:0", []int{4, 2, 4, 6}, 13}, {"2:0,3:0,5:0", []int{2, 4, 2, 4, 6, 2, 6, 4}, 11},
		{"2:0,3:0,5:0", []int{6, 4, 2, 4, 2, 4, 6, 2}, 1}, {"2:0,3:0,5:0", []int{2, 6, 4, 2, 4, 2, 4, 6}, 29},
	} {
		got, ok := impl.FirstRun(readRules(t, c.rules), c.steps)
		wantValue(t, "FirstRun of "+c.rules+" and "+wordsOf(c.steps), got, ok, c.spoke)
	}
	for _, c := range []struct {
		steps []int
		spoke int
	}{{[]int{1728}, 863}, {[]int{864}, 2591}, {[]int{864, 864}, 2591}, {[]int{864, 1728}, 4319}, {[]int{1728, 864, 864, 864, 1728, 864, 864, 864}, 863}} {
		got, ok := impl.FirstRun(fourIn4320(2), c.steps)
		wantValue(t, "FirstRun of "+wordsOf(c.steps), got, ok, c.spoke)
	}
}

func TestNoFirstRun(t *testing.T) {
	for _, c := range []struct {
		rules string
		steps []int
	}{
		{"-", []int{2}}, {"-", []int{1, 2}}, {"2:0", []int{1}}, {"2:0,3:0", []int{6}}, {"2:0,3:0", []int{4, 4}}, {"2:0,3:0", []int{2, 2}}, {"2:0,3:0", []int{4, 2, 4, 2, 4, 2, 4, 4}},
		{"2:0,3:0,5:0", []int{6, 6}}, {"2:0,3:0,5:0", []int{4, 2, 4, 2, 4, 2}}, {"2:0,3:0,5:0", []int{2, 4, 2, 4, 6, 2, 6, 6}}, {"2:0,3:0,5:0", []int{math.MaxInt}},
		// Lists that are none of 1..8 numbers of at least 1.
		{"-", nil}, {"-", []int{}}, {"-", []int{0}}, {"-", []int{-1}}, {"-", []int{1, 0}}, {"-", []int{0, 1}}, {"-", []int{1, 1, -1}}, {"-", slices.Repeat([]int{1}, 9)}, {"-", slices.Repeat([]int{1}, 100)},
		{"2:0", slices.Repeat([]int{2}, 9)}, {"2:0,3:0", append(slices.Repeat([]int{4, 2}, 4), 4)}, {"2:0,3:0", []int{4, 2, math.MinInt}},
	} {
		got, ok := impl.FirstRun(readRules(t, c.rules), c.steps)
		wantFail(t, "FirstRun of "+c.rules+" and "+wordsOf(c.steps), got, ok)
	}
}

// TestExampleOfWheels has what the document's example says.
func TestExampleOfWheels(t *testing.T) {
	list := readRules(t, "2:0,3:0")
	spokes, ok := impl.SpokesOf(list)
	wantValue(t, "SpokesOf", spokes, ok, []int{1, 5})
	steps, ok := impl.StepsOf(list)
	wantValue(t, "StepsOf", steps, ok, []int{4, 2})
	n, ok := impl.SpokeOfRank(list, 4)
	wantValue(t, "SpokeOfRank", n, ok, 13)
	rolled, ok := impl.RollWheel(list, 5)
	wantValue(t, "RollWheel", rolled, ok, []int{1, 7, 11, 13, 17, 19, 23, 29})
	step, spoke, ok := impl.LongestStep(readRules(t, "2:0,3:0,5:0"))
	wantValue(t, "LongestStep", []int{step, spoke}, ok, []int{6, 1})
	near, ok := impl.SpokeNear(list, 3)
	wantValue(t, "SpokeNear", near, ok, 1)
	times, ok := impl.TimesTogether(list, 2)
	wantValue(t, "TimesTogether", times, ok, 1)
}
