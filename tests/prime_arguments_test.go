package tests

// Promise 11 for chapter 3: every function accepts all arguments without panicking and modifies none of them.

import (
	"math"
	"slices"
	"testing"

	"loop.example/g01235/impl"
)

// primeCalls returns a call of each function of chapter 3 that takes one number.
func primeCalls(n int) []call {
	return []call{
		{"IsPrime", func() []any { return results(impl.IsPrime(n)) }},
		{"CountPrimes", func() []any { return results(impl.CountPrimes(n)) }},
		{"PrimeOfRank", func() []any { return results(impl.PrimeOfRank(n)) }},
		{"NextPrime", func() []any { return results(impl.NextPrime(n)) }},
		{"LeastFactor", func() []any { return results(impl.LeastFactor(n)) }},
		{"FactorsOf", func() []any { return results(impl.FactorsOf(n)) }},
		{"RadicalOf", func() []any { return results(impl.RadicalOf(n)) }},
		{"TwinsUpTo", func() []any { return results(impl.TwinsUpTo(n)) }},
		{"FirstTwoPrimes", func() []any { return results(impl.FirstTwoPrimes(n)) }},
		{"CountTwoPrimes", func() []any { return results(impl.CountTwoPrimes(n)) }},
		{"RulesOfPrimes", func() []any { return results(impl.RulesOfPrimes(n)) }},
		{"CrossersUpTo", func() []any { return results(impl.CrossersUpTo(n)) }},
	}
}

// twoNumberCalls returns a call of each function of chapter 3 that takes two numbers.
func twoNumberCalls(a int, b int) []call {
	return []call{
		{"PrimesBetween", func() []any { return results(impl.PrimesBetween(a, b)) }},
		{"CountWithout", func() []any { return results(impl.CountWithout(a, b)) }},
		{"SmoothUpTo", func() []any { return results(impl.SmoothUpTo(a, b)) }},
		{"IsSmooth", func() []any { return results(impl.IsSmooth(a, b)) }},
	}
}

func factorsCall(factors [][]int) call {
	return call{"NumberOfFactors", func() []any { return results(impl.NumberOfFactors(factors)) }}
}

// farNumbers are valid for no function of chapter 3, but for the bound of IsSmooth, which may be any of the last ones.
func farNumbers() []int {
	return []int{math.MinInt, math.MinInt + 1, -1 << 32, -impl.MaxFactored, -600, -2, -1, impl.MaxFactored + 1, impl.MaxFactored + 2, 1 << 31, 1 << 32, 1<<32 + 7, 1 << 62, math.MaxInt - 1, math.MaxInt}
}

func TestWrongNumbersOfPrimes(t *testing.T) {
	for _, n := range farNumbers() {
		for _, c := range primeCalls(n) {
			wantZeros(t, c.name, wantNoPanic(t, c))
		}
		for _, other := range append(farNumbers(), 0, 1, 5, 12, 600, 10000, impl.MaxFactored) {
			for _, c := range twoNumberCalls(n, other) {
				wantZeros(t, c.name, wantNoPanic(t, c))
			}
			for _, c := range twoNumberCalls(other, n) {
				if c.name != "IsSmooth" || n < 1 {
					wantZeros(t, c.name, wantNoPanic(t, c))
				}
			}
		}
	}
}

// TestEdgesOfPrimes calls each function just within and just behind its limits.
func TestEdgesOfPrimes(t *testing.T) {
	edges := map[string][2]int{
		"IsPrime": {0, impl.MaxFactored}, "CountPrimes": {0, impl.MaxCounted}, "PrimeOfRank": {0, 1228}, "NextPrime": {0, 1000000}, "LeastFactor": {2, impl.MaxFactored}, "FactorsOf": {1, impl.MaxFactored}, "RadicalOf": {1, impl.MaxFactored},
		"TwinsUpTo": {0, impl.MaxNumber}, "FirstTwoPrimes": {4, impl.MaxCounted}, "CountTwoPrimes": {4, impl.MaxCounted}, "RulesOfPrimes": {0, impl.MaxFirst}, "CrossersUpTo": {0, impl.MaxNumber},
	}
	wantEdges(t, primeCalls, edges)
}

// TestAllArgumentsOfPrimes calls every function with all that is at hand.
func TestAllArgumentsOfPrimes(t *testing.T) {
	numbers := append(farNumbers(), 0, 1, 2, 3, 4, 5, 11, 12, 13, 599, 600, 601, 1228, 1229, 2000, 2001, 9999, 10000, 10001, 999983, 1000000, 1000001, 31607*31607, 999999937, impl.MaxFactored-2001, impl.MaxFactored-2000, impl.MaxFactored)
	for _, n := range numbers {
		for _, c := range primeCalls(n) {
			wantTotal(t, c)
		}
		for _, other := range numbers {
			for _, c := range twoNumberCalls(n, other) {
				wantTotal(t, c)
			}
			for _, factors := range [][][]int{{{n, other}}, {{2, 1}, {n, other}}, {{n, 1}, {other, 1}}, {{n}, {other}}, {{n, other, 1}}} {
				wantTotal(t, factorsCall(factors))
			}
		}
	}
	for _, count := range []int{1, 29, 30, 31, 100000} {
		wantZeros(t, "NumberOfFactors", wantNoPanic(t, factorsCall(make([][]int, count))))
		wantZeros(t, "NumberOfFactors", wantNoPanic(t, factorsCall([][]int{make([]int, count)})))
	}
}

func TestPrimesAreNew(t *testing.T) {
	for _, n := range []int{0, 1, 2, 4, 12, 30, 360, 600, 1228, 9998, 1000000, 223092870} {
		for _, c := range append(primeCalls(n), twoNumberCalls(n, n+2000)...) {
			wantNewResults(t, c)
		}
		for _, c := range slices.Concat(twoNumberCalls(n, 12), twoNumberCalls(n, 600)) {
			wantNewResults(t, c)
		}
	}
}

func TestFactorsAreApart(t *testing.T) {
	for _, n := range []int{1, 2, 6, 360, 30030, 735134400, 223092870, impl.MaxFactored} {
		factors, ok := impl.FactorsOf(n)
		if !ok {
			t.Fatal("no factors", n)
		}
		wantListsApart(t, "FactorsOf", factors)
	}
}

// listMemory tells where a list is, and all that is in its memory.
type listMemory struct {
	first  *int
	length int
	all    []int
}

// memoryOf looks behind the lengths of lists, too.
func memoryOf(lists [][]int) []listMemory {
	var memory []listMemory
	for _, list := range lists {
		m := listMemory{length: len(list), all: slices.Clone(list[:cap(list)])}
		if cap(list) > 0 {
			m.first = &list[:1][0]
		}
		memory = append(memory, m)
	}
	return memory
}

func isSameMemory(a listMemory, b listMemory) bool {
	return a.first == b.first && a.length == b.length && slices.Equal(a.all, b.all)
}

// factorsWithSpare returns the lists as the beginning of a longer list, which is returned too, each one as the beginning of a longer one.
func factorsWithSpare(factors [][]int, behind int) ([][]int, [][]int) {
	var lists [][]int
	for _, f := range factors {
		short, _ := withSpare(f, behind)
		lists = append(lists, short)
	}
	return withSpare(lists, []int{behind, 1})
}

// sharingFactors are lists of which some are factors, and some would be with what is behind them, or without it.
func sharingFactors() [][][]int {
	return [][][]int{
		{}, {{2, 3}}, {{2, 3}, {3, 2}, {5, 1}}, {{2, 9}, {5, 9}}, manyFactors(9), manyFactors(30), manyFactors(31), {{999999937, 1}},
		{{}}, {{2}}, {{2, 1, 1}}, {{3, 1}, {2, 1}}, {{5, 2}, {3, 1}, {2, 7}}, {{2, 0}}, {{2, 30}}, {{4, 1}}, {{2, 1}, {3}}, {{2, 1}, {}},
	}
}

func TestFactorsStay(t *testing.T) {
	for _, factors := range sharingFactors() {
		exact := wantNoPanic(t, factorsCall(copiedLists(factors)))
		for _, behind := range []int{0, 1, 2, 3, 37, -5} {
			short, long := factorsWithSpare(factors, behind)
			before := memoryOf(long)
			for range 2 {
				values := wantNoPanic(t, factorsCall(short))
				if !sameResults(values, exact) {
					t.Error("NumberOfFactors reads behind the length", factors, behind)
				}
				if !slices.EqualFunc(memoryOf(long), before, isSameMemory) {
					t.Fatal("NumberOfFactors changes its argument", factors)
				}
			}
		}
	}
}

// TestFactorsInOneList has lists that are parts of one, each behind the other.
func TestFactorsInOneList(t *testing.T) {
	one := []int{2, 3, 5, 2, 7, 1}
	n, ok := impl.NumberOfFactors([][]int{one[:2], one[2:4], one[4:]})
	wantValue(t, "NumberOfFactors", n, ok, 1400)
	wantValue(t, "the argument", one, true, []int{2, 3, 5, 2, 7, 1})
}
