package tests

// Promise 11 for chapter 6: every function accepts all arguments without panicking.

import (
	"slices"
	"testing"

	"loop.example/g01235/impl"
)

// squareCalls returns a call of each function of chapter 6.
func squareCalls(n int) []call {
	return []call{
		{"IsSquareFree", func() []any { return results(impl.IsSquareFree(n)) }},
		{"SquarePart", func() []any { return results(impl.SquarePart(n)) }},
		{"KernelOf", func() []any { return results(impl.KernelOf(n)) }},
		{"FreeSign", func() []any { return results(impl.FreeSign(n)) }},
		{"SumOfSigns", func() []any { return results(impl.SumOfSigns(n)) }},
		{"CountSquareFree", func() []any { return results(impl.CountSquareFree(n)) }},
		{"SquareFreeUpTo", func() []any { return results(impl.SquareFreeUpTo(n)) }},
		{"SquareFreeOfRank", func() []any { return results(impl.SquareFreeOfRank(n)) }},
		{"NextSquareFree", func() []any { return results(impl.NextSquareFree(n)) }},
		{"LongestSquareful", func() []any { return results(impl.LongestSquareful(n)) }},
		{"TwoSquares", func() []any { return results(impl.TwoSquares(n)) }},
		{"CountAsTwo", func() []any { return results(impl.CountAsTwo(n)) }},
		{"IsSumOfTwo", func() []any { return results(impl.IsSumOfTwo(n)) }},
		{"SumsOfTwoUpTo", func() []any { return results(impl.SumsOfTwoUpTo(n)) }},
		{"IsSumOfThree", func() []any { return results(impl.IsSumOfThree(n)) }},
		{"FourSquares", func() []any { return results(impl.FourSquares(n)) }},
		{"CountAsFour", func() []any { return results(impl.CountAsFour(n)) }},
		{"CountInCircle", func() []any { return results(impl.CountInCircle(n)) }},
	}
}

// squareEdges are the least and the greatest valid number of each function.
func squareEdges() map[string][2]int {
	return withEdges(squareCalls(0), map[string][2]int{
		"SumOfSigns": {1, impl.MaxNumber}, "SquareFreeUpTo": {0, impl.MaxNumber}, "SquareFreeOfRank": {0, 300}, "LongestSquareful": {0, impl.MaxNumber}, "SumsOfTwoUpTo": {0, impl.MaxNumber}, "FourSquares": {1, 5000},
	}, 1, impl.MaxAsked)
}

// numbersOfSquares are the numbers at the limits of all functions, and others far within and far behind them.
func numbersOfSquares() []int {
	numbers := append(wrongForAll(), 0, 1, 2, 3, 4, 7, 8, 50, 112, 243, 299, 300, 301, 325, 448, 599, 600, 601, 1792, 2049, 4999, 5000, 5001, 65536, 71825, 96721, 99856, 99989)
	return append(numbers, impl.MaxAsked-1, impl.MaxAsked, impl.MaxAsked+1, impl.MaxAsked+4)
}

func TestWrongNumbersOfSquares(t *testing.T) {
	for _, n := range append(wrongForAll(), -impl.MaxAsked, -50, -4, impl.MaxAsked+1, impl.MaxAsked+2, impl.MaxFactored) {
		for _, c := range squareCalls(n) {
			wantZeros(t, of(c.name, n), wantNoPanic(t, c))
		}
	}
}

func TestEdgesOfSquares(t *testing.T) {
	wantEdges(t, squareCalls, squareEdges())
}

// TestLimitsOfSquares has that a call succeeds exactly within the limits.
func TestLimitsOfSquares(t *testing.T) {
	wantLimits(t, squareCalls, squareEdges(), numbersOfSquares())
}

// TestSquaresAreNew spoils what was returned, with all room behind it, and calls again.
func TestSquaresAreNew(t *testing.T) {
	for _, n := range append(numbersOfSquares(), upTo(1, 130)...) {
		for _, c := range squareCalls(n) {
			wantNewResults(t, c)
		}
	}
}

// TestTwoSquaresAreApart has no list, one list and more of them.
func TestTwoSquaresAreApart(t *testing.T) {
	for _, n := range slices.Concat(upTo(1, 700), []int{5525, 27625, 32045, 71825, 93925, impl.MaxAsked}) {
		lists, ok := impl.TwoSquares(n)
		if !ok {
			t.Fatal(of("TwoSquares", n), "fails")
		}
		wantListsApart(t, of("TwoSquares", n), lists)
	}
}

// TestLongerSquaresStayApart puts numbers behind each list of a result, which must not get into the next one.
func TestLongerSquaresStayApart(t *testing.T) {
	for _, n := range []int{50, 325, 71825, impl.MaxAsked} {
		lists, ok := impl.TwoSquares(n)
		want := copiedLists(lists)
		for i := range lists {
			_ = append(lists[i], -1, -2)
		}
		wantValue(t, of("TwoSquares", n), lists, ok, want)
	}
}
