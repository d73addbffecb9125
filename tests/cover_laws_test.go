package tests

// Promise 8 for all prime lists: each function of covers does what its description says in the plainest words, and functions agree with each other.

import (
	"slices"
	"testing"

	"loop.example/g01235/impl"
)

// primeLists returns all prime lists.
func primeLists() [][]int {
	lists := [][]int{nil}
	for _, p := range firstSix() {
		for _, list := range slices.Clone(lists) {
			if len(list) < mostPrimes {
				lists = append(lists, append(slices.Clip(list), p))
			}
		}
	}
	return lists
}

// choicesOf returns all lists of remainders, one for each prime, in lexicographic order.
func choicesOf(primes []int) [][]int {
	choices := [][]int{{}}
	for _, p := range primes {
		var longer [][]int
		for _, rests := range choices {
			for rest := range p {
				longer = append(longer, append(slices.Clip(rests), rest))
			}
		}
		choices = longer
	}
	return choices
}

// plainLength returns the number before the first one of at least 1 that rules leave, which are to leave one.
func plainLength(list []impl.Rule) int {
	n := 1
	for crossedOut(list, n) {
		n++
	}
	return n - 1
}

func TestPrimeListsAreAll(t *testing.T) {
	lists := primeLists()
	if len(lists) != 63 || len(choicesOf([]int{2, 3, 5})) != 30 {
		t.Fatal("the test has not all prime lists", len(lists))
	}
	for _, primes := range lists {
		got, ok := impl.RulesWithout(primes)
		wantValue(t, "RulesWithout "+wordsOf(primes), got, ok, rulesWith(primes, make([]int, len(primes))))
	}
}

func TestRulesWithoutAgree(t *testing.T) {
	for count := range mostPrimes + 1 {
		want, ok := impl.RulesOfPrimes(count)
		got, fine := impl.RulesWithout(firstSix()[:count])
		wantValue(t, of("RulesWithout the first primes", count), got, ok && fine, want)
	}
	for _, primes := range primeLists() {
		list, ok := impl.RulesWithout(primes)
		for n := -impl.MaxNumber; n <= impl.MaxNumber; n++ {
			divides := func(p int) bool { return n%p == 0 }
			left, fine := impl.IsLeft(list, n)
			wantValue(t, of("IsLeft of RulesWithout", n), left, ok && fine, !slices.ContainsFunc(primes, divides))
		}
	}
}

// TestCoversArePlain looks at all rules that there are, one for each prime.
func TestCoversArePlain(t *testing.T) {
	for _, primes := range primeLists() {
		var counts [impl.MaxCover + 1]int
		var firsts [impl.MaxCover + 1][]impl.Rule
		most := 0
		for _, rests := range choicesOf(primes) {
			list := rulesWith(primes, rests)
			covered := plainLength(list)
			most = max(most, covered)
			for length := range covered + 1 {
				counts[length]++
				if firsts[length] == nil {
					firsts[length] = list
				}
			}
		}
		got, ok := impl.MostCovered(primes)
		wantValue(t, "MostCovered of "+wordsOf(primes), got, ok, most)
		for length := range impl.MaxCover + 1 {
			count, ok := impl.CountCovers(primes, length)
			wantValue(t, of("CountCovers of "+wordsOf(primes), length), count, ok, counts[length])
			first, ok := impl.FirstCover(primes, length)
			if counts[length] == 0 {
				wantFail(t, of("FirstCover of "+wordsOf(primes), length), first, ok)
			} else {
				wantValue(t, of("FirstCover of "+wordsOf(primes), length), first, ok, firsts[length])
			}
		}
	}
}

// TestCoversAgree has that there is a first cover exactly if their number is not 0, and exactly up to the greatest length.
func TestCoversAgree(t *testing.T) {
	for _, primes := range primeLists() {
		most, mostOK := impl.MostCovered(primes)
		before := productOf(primes)
		for length := range impl.MaxCover + 1 {
			count, countOK := impl.CountCovers(primes, length)
			first, ok := impl.FirstCover(primes, length)
			if !mostOK || !countOK || ok != (count > 0) || ok != (length <= most) || count > before {
				t.Error("FirstCover, CountCovers and MostCovered disagree", primes, length, first, count, most)
			}
			if length == 0 && count != before {
				t.Error("not all rules cover nothing", primes, count)
			}
			before = count
			if !ok {
				continue
			}
			covered, fine := impl.IsCover(first, length)
			wantValue(t, of("IsCover of FirstCover", length), covered, fine, true)
			for k, r := range first {
				wantValue(t, "the primes of FirstCover", r.Every, impl.IsRule(r) && len(first) == len(primes), primes[k])
			}
		}
		all, fine := impl.RulesWithout(primes)
		first, ok := impl.FirstCover(primes, 0)
		wantValue(t, "FirstCover of nothing", first, ok && fine, all)
	}
}

// TestLongestRunsAreCovered has that primes cover just as much as the longest run that they cross out.
func TestLongestRunsAreCovered(t *testing.T) {
	for _, primes := range primeLists() {
		most, ok := impl.MostCovered(primes)
		list, fine := impl.RulesWithout(primes)
		run, told := impl.LongestRunOut(list)
		wantValue(t, "MostCovered of "+wordsOf(primes), most, ok && fine && told, run)
	}
}

// TestCoversLeaveNothing has IsCover with IsLeft and CountLeft.
func TestCoversLeaveNothing(t *testing.T) {
	covering := 0
	for _, list := range append(someRules(400, 121), longPeriods()...) {
		want := true
		for length := range impl.MaxCover + 1 {
			if length > 0 {
				left, ok := impl.IsLeft(list, length)
				want = want && ok && !left
			}
			got, ok := impl.IsCover(list, length)
			wantValue(t, of("IsCover", length), got, ok, want)
			count, fine := impl.CountLeft(list, length)
			wantValue(t, of("whether CountLeft is 0", length), count == 0, ok && fine, got)
			if got && length > 2 {
				covering++
			}
		}
	}
	if covering < 200 {
		t.Error("the test has too few covers:", covering)
	}
}
