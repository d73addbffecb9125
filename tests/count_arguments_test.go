package tests

// Promise 11 for chapter 2: every function accepts all arguments without panicking and modifies none of them.

import (
	"math"
	"runtime"
	"testing"

	"loop.example/g01235/impl"
)

// stepCalls returns a call of each function of chapter 2 that takes steps and a last bool, with the steps and the number given.
func stepCalls(steps []int, n int) []call {
	return []call{
		{"LeftByCounting", func() []any { return results(impl.LeftByCounting(steps, n)) }},
		{"StepOfFall", func() []any { return results(impl.StepOfFall(steps, n)) }},
		{"RankBehind", func() []any { return results(impl.RankBehind(steps, n)) }},
		{"NumberOfRank", func() []any { return results(impl.NumberOfRank(steps, n)) }},
		{"CountByCounting", func() []any { return results(impl.CountByCounting(steps, n)) }},
	}
}

// allStepCalls returns calls of all functions that take steps, with numbers of which some are left and some are not.
func allStepCalls(steps []int) []call {
	calls := []call{{"IsStepList", func() []any { return results(impl.IsStepList(steps)) }}}
	for _, n := range []int{0, 1, 2, 5, 13, 60, 400} {
		calls = append(calls, stepCalls(steps, n)...)
	}
	return calls
}

// numberCalls returns a call of each function of chapter 2 that takes one number.
func numberCalls(n int) []call {
	return []call{
		{"Lucky", func() []any { return results(impl.Lucky(n)) }},
		{"LuckySteps", func() []any { return results(impl.LuckySteps(n)) }},
		{"IsLucky", func() []any { return results(impl.IsLucky(n)) }},
		{"EvenLucky", func() []any { return results(impl.EvenLucky(n)) }},
		{"RisingSieve", func() []any { return results(impl.RisingSieve(n)) }},
		{"RisingOfRank", func() []any { return results(impl.RisingOfRank(n)) }},
	}
}

// pairCalls returns a call of each function of chapter 2 that takes two numbers.
func pairCalls(a int, b int) []call {
	return []call{
		{"OwnSteps", func() []any { return results(impl.OwnSteps(a, b)) }},
		{"CircleOut", func() []any { return results(impl.CircleOut(a, b)) }},
		{"LastOfCircle", func() []any { return results(impl.LastOfCircle(a, b)) }},
	}
}

// wrongSteps returns lists that are no steps.
func wrongSteps() [][]int {
	lists := [][]int{manySteps(impl.MaxRules+1, 2), manySteps(1000, impl.MaxAnew)}
	for _, step := range []int{0, 1, impl.MaxAnew + 1, -1, -2, 1 << 32, math.MinInt, math.MaxInt} {
		lists = append(lists, []int{step}, []int{2, 3, step}, []int{step, 2, 3}, []int{2, step, 3})
	}
	return lists
}

func TestWrongSteps(t *testing.T) {
	for _, steps := range wrongSteps() {
		if impl.IsStepList(steps) {
			t.Error("these are steps:", steps)
		}
		for _, n := range []int{0, 1, 2, 7, 10, 400} {
			for _, c := range stepCalls(steps, n) {
				wantZeros(t, c.name, wantNoPanic(t, c))
			}
		}
	}
}

func TestWrongNumbersOfCounting(t *testing.T) {
	far := []int{-1, -2, 10001, 100000, 1 << 32, math.MinInt, math.MinInt + 1, math.MaxInt - 1, math.MaxInt}
	for _, n := range far {
		for _, steps := range [][]int{nil, {2, 3}, {impl.MaxAnew}} {
			for _, c := range stepCalls(steps, n) {
				wantZeros(t, c.name, wantNoPanic(t, c))
			}
		}
		for _, c := range numberCalls(n) {
			wantZeros(t, c.name, wantNoPanic(t, c))
		}
		for _, other := range append(far, 2, 5, 20) {
			for _, c := range append(pairCalls(n, other), pairCalls(other, n)...) {
				wantZeros(t, c.name, wantNoPanic(t, c))
			}
		}
	}
}

// TestAllArgumentsOfCounting calls every function with all that is at hand.
func TestAllArgumentsOfCounting(t *testing.T) {
	numbers := []int{math.MinInt, math.MinInt + 1, -400, -1, 0, 1, 2, 20, 21, 30, 31, 100, 101, 400, 401, 1000, 1001, 10000, 10001, 1 << 32, math.MaxInt - 1, math.MaxInt}
	lists := append(wrongSteps(), someSteps(20, 25)...)
	for _, n := range numbers {
		for _, steps := range lists {
			for _, c := range stepCalls(steps, n) {
				wantTotal(t, c)
			}
		}
		for _, c := range numberCalls(n) {
			wantTotal(t, c)
		}
		for _, other := range numbers {
			for _, c := range pairCalls(n, other) {
				wantTotal(t, c)
			}
		}
	}
}

func TestStepsStay(t *testing.T) {
	for _, steps := range append(someSteps(20, 26), []int{}, []int{5, 3, 2}, manySteps(impl.MaxRules+1, 2), []int{2, 1}) {
		for _, behind := range []int{2, 3, 1, 0, -5} {
			wantArgumentStays(t, steps, behind, allStepCalls)
			wantResultsStay(t, steps, behind, allStepCalls)
			wantSpareUnread(t, steps, behind, allStepCalls)
		}
	}
}

func TestCountedNumbersAreNew(t *testing.T) {
	for _, n := range []int{1, 2, 5, 20, 30, 100, 400} {
		for _, c := range append(numberCalls(n), pairCalls(min(n, 20), n)...) {
			wantNewResults(t, c)
		}
	}
}

// TestStepsAreDone checks that no goroutine is still there some time after the calls.
func TestStepsAreDone(t *testing.T) {
	before := runtime.NumGoroutine()
	for _, steps := range append(wrongSteps(), someSteps(30, 27)...) {
		impl.LeftByCounting(steps, impl.MaxAnew)
		impl.LeftByCounting(steps, -1)
	}
	for _, c := range append(numberCalls(impl.MaxAnew), pairCalls(20, impl.MaxAnew)...) {
		wantTotal(t, c)
	}
	wantNoMoreGoroutines(t, before)
}
