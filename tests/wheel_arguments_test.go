package tests

// Promise 11 for chapter 4: every function accepts all arguments without panicking and modifies none of them.

import (
	"math"
	"slices"
	"testing"

	"loop.example/g01235/impl"
)

// wheelCalls returns a call of each function of chapter 4, with the rules, the number and the steps given.
func wheelCalls(list []impl.Rule, n int, steps []int) []call {
	return []call{
		{"CountSpokes", func() []any { return results(impl.CountSpokes(list)) }},
		{"SpokesOf", func() []any { return results(impl.SpokesOf(list)) }},
		{"StepsOf", func() []any { return results(impl.StepsOf(list)) }},
		{"IsSpoke", func() []any { return results(impl.IsSpoke(list, n)) }},
		{"SpokeOfRank", func() []any { return results(impl.SpokeOfRank(list, n)) }},
		{"RankOfSpoke", func() []any { return results(impl.RankOfSpoke(list, n)) }},
		{"SpokeNear", func() []any { return results(impl.SpokeNear(list, n)) }},
		{"LongestStep", func() []any { return results(impl.LongestStep(list)) }},
		{"CountStep", func() []any { return results(impl.CountStep(list, n)) }},
		{"StepSizes", func() []any { return results(impl.StepSizes(list)) }},
		{"LeastPeriod", func() []any { return results(impl.LeastPeriod(list)) }},
		{"IsSymmetric", func() []any { return results(impl.IsSymmetric(list)) }},
		{"RollWheel", func() []any { return results(impl.RollWheel(list, n)) }},
		{"TimesTogether", func() []any { return results(impl.TimesTogether(list, n)) }},
		{"FirstRun", func() []any { return results(impl.FirstRun(list, steps)) }},
	}
}

// allWheelCalls returns calls with numbers of which some are primes, some are left and some are not.
func allWheelCalls(list []impl.Rule) []call {
	var calls []call
	for _, n := range []int{0, 1, 3, 5, 7, 12, 29} {
		calls = append(calls, wheelCalls(list, n, []int{2})...)
	}
	return calls
}

// runCalls returns calls of the function that takes a list of steps, with wheels of which some have them.
func runCalls(steps []int) []call {
	var calls []call
	for _, list := range [][]impl.Rule{nil, rules(2, 0), rules(2, 0, 3, 0), rules(2, 0, 3, 0, 5, 0), nothingLeft()} {
		calls = append(calls, call{"FirstRun", func() []any { return results(impl.FirstRun(list, steps)) }})
	}
	return calls
}

// wrongRuns returns lists that are none of 1..8 numbers of at least 1.
func wrongRuns() [][]int {
	runs := [][]int{nil, {}, slices.Repeat([]int{1}, 9), slices.Repeat([]int{4, 2}, 5), slices.Repeat([]int{1}, 100000)}
	for _, step := range []int{0, -1, -2, math.MinInt, math.MinInt + 1} {
		runs = append(runs, []int{step}, []int{4, 2, step}, []int{step, 4, 2}, []int{4, step, 2})
	}
	return runs
}

func TestWrongRulesOfWheels(t *testing.T) {
	for _, list := range wrongRules() {
		for _, n := range []int{0, 1, 2, 3, 5, 7, 59, impl.MaxWheel} {
			for _, c := range wheelCalls(list, n, []int{1}) {
				wantZeros(t, c.name, wantNoPanic(t, c))
			}
		}
	}
}

// TestWrongNumbersOfWheels has numbers that are valid for CountStep at most.
func TestWrongNumbersOfWheels(t *testing.T) {
	needNone := []string{"CountSpokes", "SpokesOf", "StepsOf", "LongestStep", "StepSizes", "LeastPeriod", "IsSymmetric", "FirstRun"}
	for _, n := range []int{math.MinInt, math.MinInt + 1, -impl.MaxFar, -1 << 32, -6, -5, -1, impl.MaxFar + 1, impl.MaxFar + 3, 1 << 31, 1 << 32, 1 << 62, math.MaxInt - 1, math.MaxInt} {
		for _, list := range [][]impl.Rule{nil, rules(2, 0), rules(2, 0, 3, 0), rules(60, 1), oneIn864()} {
			for _, c := range wheelCalls(list, n, []int{1}) {
				if !slices.Contains(needNone, c.name) && (c.name != "CountStep" || n < 1) {
					wantZeros(t, c.name, wantNoPanic(t, c))
				}
			}
		}
	}
}

// TestEdgesOfWheels calls each function with the numbers just within and just behind its limits.
func TestEdgesOfWheels(t *testing.T) {
	edges := map[string][2]int{"IsSpoke": {0, impl.MaxFar}, "SpokeOfRank": {0, impl.MaxFar}, "RankOfSpoke": {1, impl.MaxFar}, "SpokeNear": {0, impl.MaxFar}, "CountStep": {1, math.MaxInt}, "RollWheel": {2, 59}, "TimesTogether": {1, impl.MaxWheel}}
	wantEdges(t, func(n int) []call { return wheelCalls(nil, n, nil) }, edges)
}

func TestWrongRuns(t *testing.T) {
	for _, steps := range wrongRuns() {
		for _, c := range runCalls(steps) {
			wantZeros(t, c.name, wantNoPanic(t, c))
		}
	}
}

// TestAllArgumentsOfWheels calls every function with all that is at hand.
func TestAllArgumentsOfWheels(t *testing.T) {
	lists := slices.Concat(wrongRules(), noWheels(t), greatWheels(), longPeriods(), someRules(30, 57))
	lists = append(lists, nil, rules(2, 0), oneIn864(), fourIn4320(4), manyRules(impl.MaxRules, impl.Rule{Every: 60, Rest: 59}))
	runs := append(wrongRuns(), []int{math.MaxInt}, []int{1, math.MaxInt}, slices.Repeat([]int{math.MaxInt}, 8), []int{4, 2}, []int{864})
	numbers := []int{math.MinInt, math.MinInt + 1, -impl.MaxFar, -60, -1, 0, 1, 2, 7, 59, 60, 61, impl.MaxWheel, impl.MaxWheel + 1, impl.MaxFar - 1, impl.MaxFar, impl.MaxFar + 1, 1 << 32, math.MaxInt - 1, math.MaxInt}
	for _, list := range lists {
		for i, n := range numbers {
			for _, c := range wheelCalls(list, n, runs[i%len(runs)]) {
				wantTotal(t, c)
			}
		}
		for _, steps := range runs {
			wantTotal(t, call{"FirstRun", func() []any { return results(impl.FirstRun(list, steps)) }})
		}
	}
}

func TestRulesOfWheelsStay(t *testing.T) {
	lists := append(sharingLists(), rules(2, 0, 3, 0), oneIn864(), fourIn4320(1), manyRules(impl.MaxRules-1, impl.Rule{Every: 2}), rules(5, 0, 7, 0, 11, 0))
	for _, list := range lists {
		wantResultsStay(t, list, impl.Rule{Every: 2}, allWheelCalls)
		for _, behind := range rules(2, 0, 2, 1, 3, 0, 13, 0, 0, 0, 0, -5) {
			wantArgumentStays(t, list, behind, allWheelCalls)
			wantSpareUnread(t, list, behind, allWheelCalls)
		}
	}
}

func TestRunsStay(t *testing.T) {
	for _, steps := range [][]int{{}, {2}, {4}, {2, 4}, {4, 2}, {6, 2, 6, 4}, slices.Repeat([]int{1}, 8), slices.Repeat([]int{2}, 7), slices.Repeat([]int{4, 2}, 4), slices.Repeat([]int{2}, 9), {2, 0}, {6, 4, 2, 4, 2, 4, 6}} {
		for _, behind := range []int{2, 4, 1, 0, -5} {
			wantArgumentStays(t, steps, behind, runCalls)
			wantResultsStay(t, steps, behind, runCalls)
			wantSpareUnread(t, steps, behind, runCalls)
		}
	}
}

// TestWheelsAreNew spoils what was returned, with all room behind it, and calls again.
func TestWheelsAreNew(t *testing.T) {
	for _, list := range append(greatWheels(), nil, rules(2, 0), rules(2, 0, 3, 0), rules(2, 0, 3, 0, 5, 0), oneIn864()) {
		for _, c := range allWheelCalls(list) {
			wantNewResults(t, c)
		}
	}
}
