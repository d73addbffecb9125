package tests

// Promise 11 for chapter 7: every function accepts all arguments without panicking and modifies none of them.

import (
	"math"
	"slices"
	"testing"

	"loop.example/g01235/impl"
)

// divisorCalls returns a call of each function of chapter 7 that takes one number, and of the others that take a number, each with another one that is valid.
func divisorCalls(n int) []call {
	return []call{
		{"DivisorsOf", func() []any { return results(impl.DivisorsOf(n)) }},
		{"CountDivisors", func() []any { return results(impl.CountDivisors(n)) }},
		{"SumDivisors", func() []any { return results(impl.SumDivisors(n)) }},
		{"TotientOf", func() []any { return results(impl.TotientOf(n)) }},
		{"MoebiusOf", func() []any { return results(impl.MoebiusOf(n)) }},
		{"TableOf kind", func() []any { return results(impl.TableOf(n, 12)) }},
		{"TableOf most", func() []any { return results(impl.TableOf(impl.KindSum, n)) }},
		{"PerfectUpTo", func() []any { return results(impl.PerfectUpTo(n)) }},
		{"SumStep", func() []any { return results(impl.SumStep(n)) }},
		{"SumWay n", func() []any { return results(impl.SumWay(n, 4)) }},
		{"SumWay steps", func() []any { return results(impl.SumWay(30, n)) }},
		{"RecordsUpTo", func() []any { return results(impl.RecordsUpTo(n)) }},
		{"CoprimePairs", func() []any { return results(impl.CoprimePairs(n)) }},
	}
}

// pairsOfDivisorCalls returns a call of each function of chapter 7 that takes two numbers, and AmicableOf, which fails for most valid ones.
func pairsOfDivisorCalls(a int, b int) []call {
	return []call{
		{"TableOf", func() []any { return results(impl.TableOf(a, b)) }},
		{"SumWay", func() []any { return results(impl.SumWay(a, b)) }},
		{"AmicableOf", func() []any { return results(impl.AmicableOf(a)) }},
	}
}

// tableCalls returns a call of each function of chapter 7 that takes tables, with another one in either place.
func tableCalls(a []int, other []int) []call {
	return []call{
		{"OverDivisors", func() []any { return results(impl.OverDivisors(a, other)) }},
		{"OverDivisors back", func() []any { return results(impl.OverDivisors(other, a)) }},
		{"UndoTable", func() []any { return results(impl.UndoTable(a)) }},
		{"SumOverDivisors", func() []any { return results(impl.SumOverDivisors(a)) }},
		{"IsSpread", func() []any { return results(impl.IsSpread(a)) }},
	}
}

// allTableCalls returns calls with the table itself, with KindUnit, by which nothing changes, and with tables that are longer or shorter.
func allTableCalls(a []int) []call {
	calls := append(tableCalls(a, a), tableCalls(a, nil)...)
	for _, count := range []int{1, len(a), len(a) + 1} {
		if count > 0 {
			calls = append(calls, tableCalls(a, unitOf(count))[:2]...)
		}
	}
	return calls
}

// divisorEdges are the least and the greatest valid number of each function.
func divisorEdges() map[string][2]int {
	return withEdges(divisorCalls(0), map[string][2]int{
		"TableOf kind": {0, 6}, "TableOf most": {1, impl.MaxTable}, "PerfectUpTo": {0, impl.MaxNumber}, "SumWay steps": {0, 20}, "RecordsUpTo": {0, impl.MaxNumber}, "CoprimePairs": {1, impl.MaxNumber},
	}, 1, mostDivided)
}

// numbersOfDivisors are the numbers at the limits of all functions, and others far within and far behind them.
func numbersOfDivisors() []int {
	numbers := append(wrongForAll(), 0, 1, 2, 3, 4, 5, 6, 7, 8, 12, 19, 20, 21, 28, 30, 199, impl.MaxTable, impl.MaxTable+1, 220, 284, 496, 599, impl.MaxNumber, impl.MaxNumber+1, 2310, 8128)
	return append(numbers, 65536, impl.MaxAsked, impl.MaxAsked+1, 510510, 720720, 947835, 997920, 998104, 999983, mostDivided-1, mostDivided, mostDivided+1, 1043096, 1125765)
}

func TestWrongNumbersOfDivisors(t *testing.T) {
	for _, n := range append(wrongForAll(), -mostDivided, -28, -4, mostDivided+1, mostDivided+2, impl.MaxFactored) {
		for _, c := range divisorCalls(n) {
			wantZeros(t, of(c.name, n), wantNoPanic(t, c))
		}
		for _, other := range []int{-1, 0, 1, 5, 20, 220, mostDivided, n} {
			for _, c := range pairsOfDivisorCalls(n, other) {
				wantZeros(t, of(c.name, n), wantNoPanic(t, c))
			}
			for _, c := range pairsOfDivisorCalls(other, n)[:2] {
				wantZeros(t, of(c.name, other), wantNoPanic(t, c))
			}
		}
	}
}

func TestEdgesOfDivisors(t *testing.T) {
	wantEdges(t, divisorCalls, divisorEdges())
}

// TestLimitsOfDivisors has that a call succeeds exactly within the limits.
func TestLimitsOfDivisors(t *testing.T) {
	wantLimits(t, divisorCalls, divisorEdges(), numbersOfDivisors())
}

// TestAllArgumentsOfDivisors calls every function with all that is at hand.
func TestAllArgumentsOfDivisors(t *testing.T) {
	numbers := numbersOfDivisors()
	for _, n := range numbers {
		for _, other := range numbers {
			for _, c := range pairsOfDivisorCalls(n, other) {
				wantTotal(t, c)
			}
			for _, list := range [][]int{{n}, {n, other}, {1, n}, {-1, n, other}, {1, n, other, 0, 0, n}, append(slices.Repeat([]int{n}, impl.MaxTable-1), other)} {
				for _, c := range append(tableCalls(list, list), tableCalls(list, unitOf(len(list)))...) {
					wantTotal(t, c)
				}
			}
		}
	}
	lists := slices.Concat(noTables(), tablesAtLimits(), hugeLists())
	for _, list := range lists {
		for _, other := range lists {
			for _, c := range tableCalls(list, other) {
				wantTotal(t, c)
			}
		}
	}
}

func TestWrongTables(t *testing.T) {
	for _, list := range append(noTables(), hugeLists()...) {
		for _, other := range [][]int{nil, {1}, {1, 0}, unitOf(len(list) + 1)[:len(list)], unitOf(impl.MaxTable), list} {
			for _, c := range tableCalls(list, other) {
				wantZeros(t, c.name, wantNoPanic(t, c))
			}
		}
	}
}

// sharingTables are tables that functions give back as they are, or nearly so, others, and lists that are tables with or without what is behind them.
func sharingTables() [][]int {
	lists := [][]int{nil, {1}, {-1}, {0}, {7}, {mostTabled}, {mostTabled + 1}, {math.MinInt}, {1, -5}, {0, 0, 0}, {1, 2, 3, 4, 5, 6}, {1, 2, 3, 4, 5, 7}, {-1, 2, 0, 9}, {1, 1000, 0, 0}, {1, 1001, 0, 0}, {1, mostTabled}, {1, mostTabled + 1}, {2, 4, 6}}
	for _, count := range []int{2, 30, impl.MaxTable - 1, impl.MaxTable, impl.MaxTable + 1} {
		lists = append(lists, unitOf(count), make([]int, count), upTo(1, count), slices.Repeat([]int{1}, count))
	}
	return lists
}

func TestTablesStay(t *testing.T) {
	for _, list := range sharingTables() {
		wantResultsStay(t, list, 1, allTableCalls)
		for _, behind := range []int{0, 1, -1, 1000, mostTabled + 1, math.MinInt} {
			wantArgumentStays(t, list, behind, allTableCalls)
			wantSpareUnread(t, list, behind, allTableCalls)
		}
	}
}

// TestTablesInOneList has two tables that are parts of one list, with numbers in common.
func TestTablesInOneList(t *testing.T) {
	one := []int{1, 2, 3, 4, 5, 6, 7, 8}
	got, ok := impl.OverDivisors(one[:6], one[2:])
	wantValue(t, "OverDivisors", got, ok, []int{3, 10, 14, 26, 22, 48})
	wantValue(t, "the argument", one, true, upTo(1, 8))
	spoil(results(got))
	wantValue(t, "the argument, with the result spoiled", one, true, upTo(1, 8))
}

// TestDivisorsAreNew spoils what was returned, with all room behind it, and calls again.
func TestDivisorsAreNew(t *testing.T) {
	for _, n := range append(numbersOfDivisors(), upTo(1, 130)...) {
		for _, c := range divisorCalls(n) {
			wantNewResults(t, c)
		}
		for _, c := range slices.Concat(pairsOfDivisorCalls(n, 0), pairsOfDivisorCalls(n, 20), pairsOfDivisorCalls(n%7, n)) {
			wantNewResults(t, c)
		}
	}
}

func TestTablesAreNew(t *testing.T) {
	for kind := range 7 {
		for _, most := range []int{1, 2, 30, impl.MaxTable} {
			wantNewResults(t, pairsOfDivisorCalls(kind, most)[0])
			for _, c := range allTableCalls(tableOf(t, kind, most)) {
				wantNewResults(t, c)
			}
		}
	}
}

// TestUndoneSharesNothing undoes tables that stay as they are by that.
func TestUndoneSharesNothing(t *testing.T) {
	for _, a := range [][]int{{1}, {-1}, {1, 0}, {-1, 0, 0}, unitOf(impl.MaxTable)} {
		want := slices.Clone(a)
		got, ok := impl.UndoTable(a)
		wantValue(t, "UndoTable of "+wordsOf(a), got, ok, want)
		spoil(results(got))
		wantValue(t, "the argument", a, true, want)
	}
}
