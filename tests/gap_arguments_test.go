package tests

// Promise 11 for chapter 8: every function accepts all arguments without panicking and modifies none of them.

import (
	"math"
	"runtime"
	"slices"
	"testing"

	"loop.example/g01235/impl"
)

// periodCalls returns a call of each function of chapter 8 that looks at a whole period, with the rules and the number given.
func periodCalls(list []impl.Rule, n int) []call {
	return []call{
		{"GapsOfPeriod", func() []any { return results(impl.GapsOfPeriod(list)) }},
		{"LongestGap", func() []any { return results(impl.LongestGap(list)) }},
		{"CountGaps", func() []any { return results(impl.CountGaps(list, n)) }},
		{"LongestRunOut", func() []any { return results(impl.LongestRunOut(list)) }},
		{"LongestRunLeft", func() []any { return results(impl.LongestRunLeft(list)) }},
		{"MostInWindow", func() []any { return results(impl.MostInWindow(list, n)) }},
		{"LeastInWindow", func() []any { return results(impl.LeastInWindow(list, n)) }},
		{"PairsInPeriod", func() []any { return results(impl.PairsInPeriod(list, n)) }},
	}
}

// plainGapCalls returns a call of each other function of chapter 8 that takes rules.
func plainGapCalls(list []impl.Rule, n int) []call {
	return []call{
		{"GapsUpTo", func() []any { return results(impl.GapsUpTo(list, n)) }},
		{"RecordGaps", func() []any { return results(impl.RecordGaps(list, n)) }},
		{"IsCover", func() []any { return results(impl.IsCover(list, n)) }},
	}
}

// gapCalls returns a call of each function of chapter 8 that takes rules.
func gapCalls(list []impl.Rule, n int) []call {
	return append(periodCalls(list, n), plainGapCalls(list, n)...)
}

// allGapCalls returns calls with numbers of which some are gaps, and of which the last one is valid for few functions.
func allGapCalls(list []impl.Rule) []call {
	var calls []call
	for _, n := range []int{0, 1, 2, 4, 40, 600} {
		calls = append(calls, gapCalls(list, n)...)
	}
	return calls
}

// primeListCalls returns a call of each function of chapter 8 that takes a prime list.
func primeListCalls(primes []int, length int) []call {
	return []call{
		{"RulesWithout", func() []any { return results(impl.RulesWithout(primes)) }},
		{"MostCovered", func() []any { return results(impl.MostCovered(primes)) }},
		{"FirstCover", func() []any { return results(impl.FirstCover(primes, length)) }},
		{"CountCovers", func() []any { return results(impl.CountCovers(primes, length)) }},
	}
}

// allPrimeListCalls returns calls with lengths of which some can be covered.
func allPrimeListCalls(primes []int) []call {
	var calls []call
	for _, length := range []int{0, 1, 3, 9, 14, 41} {
		calls = append(calls, primeListCalls(primes, length)...)
	}
	return calls
}

// gapEdges are the least and the greatest valid number of each function of chapter 8 that takes one. For FirstCover the greatest one is the length that five primes cover.
func gapEdges() map[string][2]int {
	return map[string][2]int{
		"GapsUpTo": {0, impl.MaxNumber}, "RecordGaps": {0, impl.MaxNumber}, "CountGaps": {1, math.MaxInt}, "MostInWindow": {0, mostWindow}, "LeastInWindow": {0, mostWindow},
		"PairsInPeriod": {0, mostPairApart}, "IsCover": {0, impl.MaxCover}, "CountCovers": {0, impl.MaxCover}, "FirstCover": {0, 13},
	}
}

// numberedGapCalls returns a call of each function of chapter 8 that takes a number, with rules and primes that are valid.
func numberedGapCalls(n int) []call {
	edges := gapEdges()
	calls := append(gapCalls(rules(2, 0, 3, 0), n), primeListCalls([]int{2, 3, 5, 7, 11}, n)...)
	return slices.DeleteFunc(calls, func(c call) bool { return edges[c.name] == [2]int{} })
}

// numbersOfGaps are the numbers at the limits of all functions, and others far within and far behind them.
func numbersOfGaps() []int {
	return append(wrongForAll(), 0, 1, 2, 3, 4, 5, 6, 12, 13, 14, 39, impl.MaxCover, impl.MaxCover+1, 60, 199, mostWindow, mostWindow+1, 599, impl.MaxNumber, impl.MaxNumber+1, 864, 999, mostPairApart, mostPairApart+1, 99975, 100000, 100001)
}

func TestWrongRulesOfGaps(t *testing.T) {
	for _, list := range wrongRules() {
		for _, n := range []int{0, 1, 2, 3, impl.MaxCover} {
			for _, c := range gapCalls(list, n) {
				wantZeros(t, c.name, wantNoPanic(t, c))
			}
		}
	}
}

// TestWrongNumbersOfGaps has numbers that are valid for CountGaps at most.
func TestWrongNumbersOfGaps(t *testing.T) {
	for _, n := range append(wrongForAll(), -1000, -600, -40, 1001, 1002, 100000) {
		for _, c := range numberedGapCalls(n) {
			if c.name == "CountGaps" && n > 0 {
				wantSuccess(t, c)
				continue
			}
			wantZeros(t, of(c.name, n), wantNoPanic(t, c))
		}
	}
}

func TestEdgesOfGaps(t *testing.T) {
	wantEdges(t, numberedGapCalls, gapEdges())
}

// TestLimitsOfGaps has that a call succeeds exactly within the limits.
func TestLimitsOfGaps(t *testing.T) {
	wantLimits(t, numberedGapCalls, gapEdges(), numbersOfGaps())
}

// TestAllArgumentsOfGaps calls every function with all that is at hand.
func TestAllArgumentsOfGaps(t *testing.T) {
	lists := slices.Concat(wrongRules(), emptyRules(t)[:6], noWheels(t), greatWheels(), longPeriods(), someRules(20, 131))
	lists = append(lists, nil, rules(2, 0), oneIn864(), fourIn4320(4), manyRules(impl.MaxRules, impl.Rule{Every: 60, Rest: 59}))
	for _, n := range numbersOfGaps() {
		for _, list := range lists {
			for _, c := range gapCalls(list, n) {
				wantTotal(t, c)
			}
		}
		for _, primes := range slices.Concat(noPrimeLists(), hugeLists(), [][]int{nil, {2}, {13}, {2, 3, 5}, {2, n}, {n, 13}, {n}, {2, 3, 5, 7, 11}}) {
			for _, c := range primeListCalls(primes, n) {
				wantTotal(t, c)
			}
		}
	}
	for _, n := range []int{-1, 0, 1, 2, mostWindow, mostPairApart, math.MaxInt} {
		for _, c := range append(gapCalls(greatRules(), n), primeListCalls([]int{3, 5, 7, 11, 13}, n)...) {
			wantTotal(t, c)
		}
	}
}

func TestRulesOfGapsStay(t *testing.T) {
	lists := append(sharingLists(), rules(2, 0, 3, 0), rules(2, 1, 3, 2), oneIn864(), manyRules(impl.MaxRules+1, impl.Rule{Every: 2}), rules(2, 0, 1, 0))
	for _, list := range lists {
		wantResultsStay(t, list, impl.Rule{Every: 2}, allGapCalls)
		for _, behind := range rules(2, 0, 2, 1, 3, 0, 13, 0, 0, 0, 0, -5) {
			wantArgumentStays(t, list, behind, allGapCalls)
			wantSpareUnread(t, list, behind, allGapCalls)
		}
	}
}

// TestPrimeListsStay has lists that are prime lists, or would be with what is behind them, or without it.
func TestPrimeListsStay(t *testing.T) {
	for _, primes := range [][]int{nil, {}, {2}, {3}, {2, 3}, {3, 2}, {2, 2}, {5, 11}, {2, 3, 5}, {2, 3, 5, 7}, {2, 3, 5, 7, 11}, firstSix(), {1}, {2, 4}, {17}} {
		wantResultsStay(t, primes, 13, allPrimeListCalls)
		for _, behind := range []int{2, 3, 13, 17, 0, -5} {
			wantArgumentStays(t, primes, behind, allPrimeListCalls)
			wantSpareUnread(t, primes, behind, allPrimeListCalls)
		}
	}
}

// TestGapsAreNew spoils what was returned, with all room behind it, and calls again.
func TestGapsAreNew(t *testing.T) {
	for _, list := range append(greatWheels(), nil, rules(2, 0), rules(2, 0, 3, 0), rules(2, 1, 3, 2), rules(4, 0, 6, 1), oneIn864()) {
		for _, c := range allGapCalls(list) {
			wantNewResults(t, c)
		}
	}
	for _, primes := range primeLists()[:40] {
		for _, c := range allPrimeListCalls(primes) {
			wantNewResults(t, c)
		}
	}
}

func TestRecordsAreApart(t *testing.T) {
	for _, list := range append(someRules(100, 132), rules(2, 0, 3, 2, 5, 4, 7, 6, 11, 0, 13, 0)) {
		for _, most := range []int{0, 2, 30, impl.MaxNumber} {
			records, ok := impl.RecordGaps(list, most)
			if !ok {
				t.Fatal("RecordGaps fails", list, most)
			}
			wantListsApart(t, "RecordGaps", records)
		}
	}
}

// TestWindowsAreDone checks that no goroutine is still there some time after the calls.
func TestWindowsAreDone(t *testing.T) {
	before := runtime.NumGoroutine()
	for _, list := range slices.Concat(wrongRules()[:10], emptyRules(t), someRules(60, 133), longPeriods(), [][]impl.Rule{nil, greatRules()}) {
		for _, n := range []int{-1, 0, 1, mostWindow, mostWindow + 1} {
			for _, c := range gapCalls(list, n) {
				wantTotal(t, c)
			}
		}
	}
	wantNoMoreGoroutines(t, before)
}
