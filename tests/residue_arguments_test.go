package tests

// Promise 11 for chapter 5: every function accepts all arguments without panicking and modifies none of them.

import (
	"math"
	"slices"
	"testing"

	"loop.example/g01235/impl"
)

// patternCalls returns a call of each function of chapter 5 that takes a pattern, with the prime or number of primes, and the most or width given.
func patternCalls(offsets []int, prime int, most int) []call {
	return []call{
		{"RestsOf", func() []any { return results(impl.RestsOf(offsets, prime)) }},
		{"IsOpen", func() []any { return results(impl.IsOpen(offsets)) }},
		{"FirstClosing", func() []any { return results(impl.FirstClosing(offsets)) }},
		{"BackPattern", func() []any { return results(impl.BackPattern(offsets)) }},
		{"RulesOfPattern", func() []any { return results(impl.RulesOfPattern(offsets, prime)) }},
		{"PlacesInPeriod", func() []any { return results(impl.PlacesInPeriod(offsets, prime)) }},
		{"FirstPlaces", func() []any { return results(impl.FirstPlaces(offsets, prime, most)) }},
		{"PrimePlaces", func() []any { return results(impl.PrimePlaces(offsets, most)) }},
		{"AddOffsets", func() []any { return results(impl.AddOffsets(offsets, most)) }},
		{"ShareOfPlaces", func() []any { return results(impl.ShareOfPlaces(offsets, prime)) }},
	}
}

// allPatternCalls returns calls with primes and numbers of them, and IsPattern, which has no last bool.
func allPatternCalls(offsets []int) []call {
	calls := []call{{"IsPattern", func() []any { return results(impl.IsPattern(offsets)) }}}
	for _, prime := range []int{0, 1, 2, 3, 4, 5, 6, 7, 11, 13} {
		calls = append(calls, patternCalls(offsets, prime, 60)...)
	}
	return append(calls, patternCalls(offsets, 3, 6)...)
}

// openCalls returns a call of each function of chapter 5 that looks for open patterns.
func openCalls(n int, width int) []call {
	return []call{
		{"NarrowestOpen", func() []any { return results(impl.NarrowestOpen(n)) }},
		{"CountOpen", func() []any { return results(impl.CountOpen(n, width)) }},
		{"AllOpen", func() []any { return results(impl.AllOpen(n, width)) }},
	}
}

// restsCalls returns a call of each function of chapter 5 that takes a list of primes.
func restsCalls(primes []int, rests []int, n int) []call {
	return []call{
		{"NumberWithRests", func() []any { return results(impl.NumberWithRests(primes, rests)) }},
		{"RestsOfNumber", func() []any { return results(impl.RestsOfNumber(primes, n)) }},
	}
}

// callsOfPrimes returns calls with a list of primes, and remainders that are some or are not.
func callsOfPrimes(primes []int) []call {
	var calls []call
	for _, rests := range [][]int{nil, make([]int, len(primes)), slices.Repeat([]int{1}, len(primes)), slices.Repeat([]int{2}, len(primes)), make([]int, len(primes)+1)} {
		calls = append(calls, restsCalls(primes, rests, 1000+len(rests))...)
	}
	return calls
}

// callsOfRests returns calls with a list of remainders, and primes of which they are some or are not.
func callsOfRests(rests []int) []call {
	var calls []call
	for _, primes := range [][]int{nil, {2}, {13}, {3, 2}, {5, 7}, {7, 2, 5}, {13, 11, 7}, firstSix(), {13, 11, 7, 5, 3, 2}} {
		calls = append(calls, restsCalls(primes, rests, 0)[0])
	}
	return calls
}

// hugeLists are no patterns and no lists of different primes; as remainders they are too many.
func hugeLists() [][]int {
	return [][]int{make([]int, 100000), upTo(0, 99999), upTo(2, 100001), slices.Repeat([]int{13}, 100000)}
}

// wrongForAll are numbers that are valid for no function of chapter 5: no primes, no numbers of them or of offsets, not up to where a list goes, and no numbers whose remainders are told.
func wrongForAll() []int {
	return []int{math.MinInt, math.MinInt + 1, -1 << 32, 3 - 1<<32, -601, -61, -13, -2, -1, 1000000001, 1 << 31, 1 << 32, 1<<32 + 2, 1<<32 + 5, 1 << 62, math.MaxInt - 1, math.MaxInt}
}

// TestResiduesSucceed has arguments with each of which, if another one is wrong, the calls of the tests below fail.
func TestResiduesSucceed(t *testing.T) {
	for _, prime := range []int{2, 3, 5} {
		for _, most := range []int{0, 1, 30, 60} {
			for _, c := range slices.Concat(patternCalls([]int{0, 2}, prime, most), openCalls(prime, 30), restsCalls([]int{3, 2}, []int{2, 1}, most)) {
				if c.name != "FirstClosing" {
					wantSuccess(t, c)
				}
			}
		}
	}
	wantSuccess(t, patternCalls([]int{0, 2, 4}, 2, 0)[2])
}

func TestWrongPatterns(t *testing.T) {
	for _, offsets := range append(noPatterns(), hugeLists()...) {
		for _, prime := range []int{2, 3, 5} {
			for _, most := range []int{0, 1, 30, 60} {
				for _, c := range patternCalls(offsets, prime, most) {
					wantZeros(t, c.name, wantNoPanic(t, c))
				}
			}
		}
	}
}

func TestWrongNumbersOfResidues(t *testing.T) {
	needNone := []string{"IsOpen", "FirstClosing", "BackPattern"}
	needMost := []string{"PrimePlaces", "AddOffsets"}
	needPrime := []string{"RestsOf", "RulesOfPattern", "PlacesInPeriod", "ShareOfPlaces"}
	for _, n := range wrongForAll() {
		for _, offsets := range [][]int{{0}, {0, 2}, {0, 2, 6}, eightOpen()} {
			for _, c := range patternCalls(offsets, n, 30) {
				if !slices.Contains(needNone, c.name) && !slices.Contains(needMost, c.name) {
					wantZeros(t, c.name, wantNoPanic(t, c))
				}
			}
			for _, c := range patternCalls(offsets, 3, n) {
				if !slices.Contains(needNone, c.name) && !slices.Contains(needPrime, c.name) {
					wantZeros(t, c.name, wantNoPanic(t, c))
				}
			}
		}
		for _, c := range append(openCalls(n, 6), openCalls(3, n)[1:]...) {
			wantZeros(t, c.name, wantNoPanic(t, c))
		}
		for _, primes := range [][]int{nil, {2}, {5, 3}, firstSix()} {
			wantZeros(t, "RestsOfNumber", wantNoPanic(t, restsCalls(primes, nil, n)[1]))
		}
		for _, primes := range [][]int{{n}, {2, n}, {n, 5, 3}} {
			for _, c := range restsCalls(primes, make([]int, len(primes)), 0) {
				wantZeros(t, c.name, wantNoPanic(t, c))
			}
		}
		for _, rests := range [][]int{{n, 0}, {0, n}, {n, n}} {
			wantZeros(t, "NumberWithRests", wantNoPanic(t, restsCalls([]int{3, 5}, rests, 0)[0]))
		}
	}
}

// TestEdgesOfResidues calls each function with a number just within and just behind its limits.
func TestEdgesOfResidues(t *testing.T) {
	for _, c := range []struct {
		name      string
		low, high int
		run       func(n int) []any
	}{
		{"RulesOfPattern", 0, 6, func(n int) []any { return results(impl.RulesOfPattern([]int{0, 2}, n)) }},
		{"PlacesInPeriod", 0, 6, func(n int) []any { return results(impl.PlacesInPeriod([]int{0, 2}, n)) }},
		{"FirstPlaces", 0, 6, func(n int) []any { return results(impl.FirstPlaces([]int{0, 2}, n, 30)) }},
		{"ShareOfPlaces", 0, 6, func(n int) []any { return results(impl.ShareOfPlaces([]int{0, 2}, n)) }},
		{"FirstPlaces", 0, impl.MaxNumber, func(n int) []any { return results(impl.FirstPlaces([]int{0, 2}, 3, n)) }},
		{"PrimePlaces", 0, impl.MaxNumber, func(n int) []any { return results(impl.PrimePlaces([]int{0, 2}, n)) }},
		{"AddOffsets", 0, impl.MaxWidth, func(n int) []any { return results(impl.AddOffsets([]int{0, 2}, n)) }},
		{"NarrowestOpen", 1, 6, func(n int) []any { return results(impl.NarrowestOpen(n)) }},
		{"CountOpen", 1, 6, func(n int) []any { return results(impl.CountOpen(n, 6)) }},
		{"CountOpen", 0, 30, func(n int) []any { return results(impl.CountOpen(3, n)) }},
		{"AllOpen", 1, 6, func(n int) []any { return results(impl.AllOpen(n, 6)) }},
		{"AllOpen", 0, 30, func(n int) []any { return results(impl.AllOpen(3, n)) }},
		{"RestsOfNumber", 0, 1000000000, func(n int) []any { return results(impl.RestsOfNumber([]int{2, 3}, n)) }},
		{"NumberWithRests", 0, 12, func(n int) []any { return results(impl.NumberWithRests([]int{2, 13}, []int{1, n})) }},
	} {
		for _, n := range []int{c.low, c.high} {
			wantSuccess(t, call{c.name, func() []any { return c.run(n) }})
		}
		for _, n := range []int{c.low - 1, c.high + 1} {
			wantZeros(t, c.name, wantNoPanic(t, call{c.name, func() []any { return c.run(n) }}))
		}
	}
}

// TestAllArgumentsOfResidues calls every function with all that is at hand.
func TestAllArgumentsOfResidues(t *testing.T) {
	lists := slices.Concat(noPatterns(), somePatterns(60, 77), hugeLists(), listsOfPrimes()[:60], [][]int{firstSix(), firstTwelve(), {2, 2}, {13, 11, 13}})
	numbers := append(wrongForAll(), 0, 1, 2, 3, 4, 5, 6, 7, 8, 11, 13, 17, 30, 31, 59, 60, 61, 599, impl.MaxNumber, impl.MaxNumber+1, 999999999, 1000000000)
	for i, list := range lists {
		impl.IsPattern(list)
		for k, n := range numbers {
			for _, c := range slices.Concat(patternCalls(list, n, numbers[(k+i)%len(numbers)]), restsCalls(list, lists[(i+k)%len(lists)], n), restsCalls(list, list, n)) {
				wantTotal(t, c)
			}
		}
	}
	for _, n := range numbers {
		for _, other := range numbers {
			for _, c := range openCalls(n, other) {
				wantTotal(t, c)
			}
			for _, list := range [][]int{{n}, {0, n}, {n, other}, {0, n, other}} {
				for _, c := range append(patternCalls(list, 3, 30), restsCalls(list, list[:1], other)...) {
					wantTotal(t, c)
				}
			}
		}
	}
}

// TestPatternsStay has lists that are patterns, or would be with what is behind them, or without it.
func TestPatternsStay(t *testing.T) {
	lists := append(somePatterns(40, 78), nil, []int{}, []int{2}, []int{0, 0}, []int{0, 4, 2}, []int{0, 61}, upTo(0, 8), []int{0, 2, 4}, []int{0, 6, 8, 12, 14}, []int{0, 2, 8, 12, 18, 20, 24})
	for _, offsets := range lists {
		wantResultsStay(t, offsets, 60, allPatternCalls)
		for _, behind := range []int{0, 1, 4, 27, 60, 61, -5} {
			wantArgumentStays(t, offsets, behind, allPatternCalls)
			wantSpareUnread(t, offsets, behind, allPatternCalls)
		}
	}
}

func TestPrimesToldStay(t *testing.T) {
	lists := append(listsOfPrimes()[:50], firstSix(), []int{13, 11, 7, 5, 3, 2}, []int{2, 2}, []int{1}, []int{17}, []int{3, 4}, firstTwelve()[:7])
	for _, primes := range lists {
		for _, behind := range []int{0, 2, 13, 17, -5} {
			wantResultsStay(t, primes, behind, callsOfPrimes)
			wantArgumentStays(t, primes, behind, callsOfPrimes)
			wantSpareUnread(t, primes, behind, callsOfPrimes)
		}
	}
}

func TestRestsStay(t *testing.T) {
	for _, rests := range [][]int{nil, {}, {0}, {1}, {12}, {13}, {-1}, {1, 1}, {4, 6}, {2, 1}, {3, 2}, {6, 1, 4}, {12, 10, 6}, {1, 2, 4, 6, 10, 12}, {12, 10, 6, 4, 2, 1}, make([]int, 6), make([]int, 7)} {
		for _, behind := range []int{0, 1, 13, -5} {
			wantResultsStay(t, rests, behind, callsOfRests)
			wantArgumentStays(t, rests, behind, callsOfRests)
			wantSpareUnread(t, rests, behind, callsOfRests)
		}
	}
}

// TestPrimesAndRestsInOneList has primes and remainders that are parts of one list, with numbers in common.
func TestPrimesAndRestsInOneList(t *testing.T) {
	one := []int{7, 5, 3, 2, 1, 0}
	n, ok := impl.NumberWithRests(one[:4], one[1:5])
	wantValue(t, "NumberWithRests", n, ok, 173)
	rests, ok := impl.RestsOfNumber(one[:4], n)
	wantValue(t, "RestsOfNumber", rests, ok, []int{5, 3, 2, 1})
	wantValue(t, "the argument", one, true, []int{7, 5, 3, 2, 1, 0})
}

// TestResiduesAreNew spoils what was returned, with all room behind it, and calls again.
func TestResiduesAreNew(t *testing.T) {
	for _, offsets := range somePatterns(40, 79) {
		for _, c := range append(allPatternCalls(offsets), callsOfPrimes(offsets[1:])...) {
			wantNewResults(t, c)
		}
	}
	for n := range 8 {
		for width := range 32 {
			for _, c := range openCalls(n, width) {
				wantNewResults(t, c)
			}
		}
	}
	for _, primes := range listsOfPrimes()[:60] {
		for _, c := range callsOfPrimes(primes) {
			wantNewResults(t, c)
		}
	}
}

// TestOpenPatternsAreApart has lists of just one pattern, and the longest ones.
func TestOpenPatternsAreApart(t *testing.T) {
	for n := 1; n <= 6; n++ {
		for width := range 31 {
			lists, ok := impl.AllOpen(n, width)
			if !ok {
				t.Fatal("no open patterns", n, width)
			}
			wantListsApart(t, "AllOpen", lists)
		}
	}
}
