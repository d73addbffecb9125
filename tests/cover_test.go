package tests

// Promise 8: covers have one rule for each prime.

import (
	"math"
	"slices"
	"testing"

	"loop.example/g01235/impl"
)

// mostPrimes is how many primes a prime list has at most.
const mostPrimes = 5

// primeCovers is how covers of a prime list are: how many there are of the length 0, 1, and so on, up to the first length of which there are none, and the Rests of the first ones of each length that there is.
type primeCovers struct {
	primes []int
	counts []int
	firsts [][]int
}

// knownCovers have lists of no prime and of one, of few and of five.
func knownCovers() []primeCovers {
	return []primeCovers{
		{nil, []int{1, 0}, [][]int{{}}},
		{[]int{2}, []int{2, 1, 0}, [][]int{{0}, {1}}},
		{[]int{3}, []int{3, 1, 0}, [][]int{{0}, {1}}},
		{[]int{13}, []int{13, 1, 0}, [][]int{{0}, {1}}},
		{[]int{2, 3}, []int{6, 4, 2, 1, 0}, [][]int{{0, 0}, {0, 1}, {0, 1}, {1, 2}}},
		{[]int{2, 5}, []int{10, 6, 2, 1, 0}, [][]int{{0, 0}, {0, 1}, {0, 1}, {1, 2}}},
		{[]int{3, 5}, []int{15, 7, 2, 0}, [][]int{{0, 0}, {0, 1}, {1, 2}}},
		{[]int{11, 13}, []int{143, 23, 2, 0}, [][]int{{0, 0}, {0, 1}, {1, 2}}},
		{[]int{2, 3, 5}, []int{30, 22, 14, 9, 4, 2, 0}, [][]int{{0, 0, 0}, {0, 0, 1}, {0, 0, 1}, {0, 0, 1}, {0, 0, 1}, {1, 1, 2}}},
		{[]int{2, 7, 13}, []int{182, 110, 38, 21, 4, 2, 0}, [][]int{{0, 0, 0}, {0, 0, 1}, {0, 0, 1}, {0, 1, 3}, {0, 1, 3}, {1, 2, 4}}},
		{[]int{3, 5, 7}, []int{105, 57, 24, 6, 2, 0}, [][]int{{0, 0, 0}, {0, 0, 1}, {0, 1, 2}, {0, 1, 2}, {1, 2, 3}}},
		{[]int{2, 3, 5, 7}, []int{210, 162, 114, 81, 48, 30, 12, 8, 4, 2, 0}, [][]int{{0, 0, 0, 0}, {0, 0, 0, 1}, {0, 0, 0, 1}, {0, 0, 0, 1}, {0, 0, 0, 1}, {0, 0, 0, 1}, {0, 0, 0, 1}, {0, 1, 0, 3}, {0, 1, 0, 3}, {1, 2, 1, 4}}},
		{[]int{5, 7, 11, 13}, []int{5005, 2125, 730, 180, 24, 0}, [][]int{{0, 0, 0, 0}, {0, 0, 0, 1}, {0, 0, 1, 2}, {0, 1, 2, 3}, {1, 2, 3, 4}}},
		{[]int{2, 3, 5, 7, 11}, []int{2310, 1830, 1350, 1005, 660, 450, 240, 172, 104, 64, 24, 14, 4, 2, 0},
			[][]int{{0, 0, 0, 0, 0}, {0, 0, 0, 0, 1}, {0, 0, 0, 0, 1}, {0, 0, 0, 0, 1}, {0, 0, 0, 0, 1}, {0, 0, 0, 0, 1}, {0, 0, 0, 0, 1}, {0, 0, 0, 0, 1}, {0, 0, 0, 0, 1}, {0, 0, 0, 0, 1}, {0, 0, 0, 0, 1}, {0, 0, 1, 0, 5}, {0, 0, 1, 0, 5}, {1, 1, 2, 1, 6}}},
		{[]int{3, 5, 7, 11, 13}, []int{15015, 9255, 4980, 2190, 1090, 384, 116, 36, 14, 4, 2, 0},
			[][]int{{0, 0, 0, 0, 0}, {0, 0, 0, 0, 1}, {0, 0, 0, 1, 2}, {0, 0, 0, 1, 2}, {0, 0, 1, 2, 4}, {0, 0, 1, 2, 4}, {0, 0, 1, 2, 4}, {0, 2, 1, 4, 5}, {0, 2, 1, 4, 5}, {0, 2, 1, 4, 5}, {1, 3, 2, 5, 6}}},
	}
}

// noPrimeLists have a number that is no prime or none of the first six, a prime twice, primes that do not increase, or six of them.
func noPrimeLists() [][]int {
	lists := [][]int{
		firstSix(), firstTwelve(), {2, 3, 5, 7, 11, 11}, {2, 2}, {13, 13}, {2, 3, 3}, {2, 2, 3}, {2, 3, 2}, {3, 2}, {2, 5, 3}, {3, 2, 5}, {5, 3, 2}, {13, 11, 7, 5, 3}, {2, 3, 5, 11, 7},
		{2, 2, 2, 2, 2}, {2, 3, 5, 7, 17}, {2, 3, 5, 7, 9}, {1, 2, 3}, {0, 2, 3}, {-2, 2, 3}, {-3, -2}, {2, 4}, {2, 3, 4, 5}, {3, 9}, {7, 8, 11}, {11, 12, 13}, {13, 17},
		{math.MinInt}, {math.MaxInt}, {math.MinInt, 2}, {2, math.MaxInt}, {1<<32 + 2}, {2, 1<<32 + 3}, make([]int, mostPrimes), make([]int, mostPrimes+1),
	}
	for _, n := range noPrimesTold() {
		lists = append(lists, []int{n})
	}
	return lists
}

// rulesWith returns one rule for each prime.
func rulesWith(primes []int, rests []int) []impl.Rule {
	list := make([]impl.Rule, len(primes))
	for k, p := range primes {
		list[k] = impl.Rule{Every: p, Rest: rests[k]}
	}
	return list
}

func TestRulesWithout(t *testing.T) {
	for _, c := range []struct {
		primes []int
		want   string
	}{
		{nil, "-"}, {[]int{}, "-"}, {[]int{2}, "2:0"}, {[]int{13}, "13:0"}, {[]int{2, 3}, "2:0,3:0"}, {[]int{2, 13}, "2:0,13:0"}, {[]int{5, 7, 11}, "5:0,7:0,11:0"}, {[]int{2, 3, 5, 7, 11}, "2:0,3:0,5:0,7:0,11:0"}, {[]int{3, 5, 7, 11, 13}, "3:0,5:0,7:0,11:0,13:0"},
	} {
		got, ok := impl.RulesWithout(c.primes)
		wantValue(t, "RulesWithout "+wordsOf(c.primes), got, ok, readRules(t, c.want))
	}
}

func TestMostCovered(t *testing.T) {
	for count, want := range []int{0, 1, 3, 5, 9, 13} {
		got, ok := impl.MostCovered(firstSix()[:count])
		wantValue(t, of("MostCovered of the first primes", count), got, ok, want)
	}
	for _, c := range knownCovers() {
		got, ok := impl.MostCovered(c.primes)
		wantValue(t, "MostCovered of "+wordsOf(c.primes), got, ok, len(c.firsts)-1)
	}
	for want, lists := range map[int][][]int{
		1: {{5}, {7}, {11}}, 2: {{3, 13}, {5, 7}, {7, 11}}, 3: {{2, 13}, {7, 11, 13}, {5, 7, 13}}, 4: {{3, 11, 13}, {3, 7, 13}}, 5: {{2, 11, 13}, {2, 3, 13}, {3, 7, 11, 13}},
		6: {{3, 5, 11, 13}}, 7: {{2, 7, 11, 13}}, 9: {{2, 3, 11, 13}, {2, 5, 7, 11, 13}}, 11: {{2, 3, 7, 11, 13}}, 13: {{2, 3, 5, 7, 13}, {2, 3, 5, 11, 13}},
	} {
		for _, primes := range lists {
			got, ok := impl.MostCovered(primes)
			wantValue(t, "MostCovered of "+wordsOf(primes), got, ok, want)
		}
	}
}

// TestCovers has all lengths that can be covered, one more, and greater ones up to MaxCover.
func TestCovers(t *testing.T) {
	for _, c := range knownCovers() {
		name := wordsOf(c.primes)
		for length := range impl.MaxCover + 1 {
			first, ok := impl.FirstCover(c.primes, length)
			count, counted := impl.CountCovers(c.primes, length)
			if length >= len(c.firsts) {
				wantFail(t, of("FirstCover of "+name, length), first, ok)
				wantValue(t, of("CountCovers of "+name, length), count, counted, 0)
				continue
			}
			wantValue(t, of("FirstCover of "+name, length), first, ok, rulesWith(c.primes, c.firsts[length]))
			wantValue(t, of("CountCovers of "+name, length), count, counted, c.counts[length])
		}
	}
}

func TestNoPrimeLists(t *testing.T) {
	for _, primes := range noPrimeLists() {
		for _, length := range []int{0, 1, 2, impl.MaxCover} {
			for _, c := range primeListCalls(primes, length) {
				wantZeros(t, c.name+" of "+wordsOf(primes), wantNoPanic(t, c))
			}
		}
	}
}

func TestNoLengths(t *testing.T) {
	for _, length := range []int{-1, -2, impl.MaxCover + 1, impl.MaxCover + 2, 1 << 32, math.MinInt, math.MaxInt} {
		for _, primes := range [][]int{nil, {2}, {2, 3, 5}, {2, 3, 5, 7, 11}} {
			first, ok := impl.FirstCover(primes, length)
			wantFail(t, of("FirstCover", length), first, ok)
			count, ok := impl.CountCovers(primes, length)
			wantFail(t, of("CountCovers", length), count, ok)
		}
		for _, list := range [][]impl.Rule{nil, rules(2, 0, 2, 1), rules(2, 1, 3, 2)} {
			covered, ok := impl.IsCover(list, length)
			wantFail(t, of("IsCover", length), covered, ok)
		}
	}
}

func TestMaxCover(t *testing.T) {
	wantValue(t, "MaxCover", impl.MaxCover, true, 40)
}

// TestIsCover has for rules the greatest length that they cover.
func TestIsCover(t *testing.T) {
	for text, most := range map[string]int{
		"-": 0, "2:0": 0, "2:1": 1, "2:1,2:1": 1, "3:2": 0, "3:1": 1, "60:1": 1, "60:0": 0, "2:1,3:2": 3, "3:2,2:1": 3, "2:0,3:1": 2, "2:0,3:0": 0, "2:1,4:2": 3, "2:1,3:1,5:2": 5, "2:0,3:1,5:3": 4, "2:1,3:2,5:4": 5, "2:1,3:2,5:4,7:6": 9,
		"2:1,3:2,5:1,7:4": 9, "2:1,3:1,5:2,7:1,11:6": 13, "2:1,4:2,8:4,16:8,32:16": 31, "2:1,4:2,8:4,60:8,60:16,60:24": 31, "2:1,4:2,8:4,60:8,60:16,60:24,60:32": 39, "60:32,60:24,60:16,60:8,8:4,4:2,2:1": 39,
		"2:0,2:1": impl.MaxCover, "3:0,3:1,3:2": impl.MaxCover, "2:1,4:2,8:4,60:8,60:16,60:24,60:32,60:40": impl.MaxCover, "2:0,4:3,8:5,16:1,60:9,60:25": impl.MaxCover, "2:1,4:2,8:4,16:8,32:16,60:32": impl.MaxCover, "2:0,3:0,3:1,6:5": impl.MaxCover,
		"60:1,60:2,60:3,60:4,60:5,60:6,60:7,60:8,60:9,60:10,60:11,60:12": 12, "2:0,60:1,60:3,60:5,60:7,60:9,60:11,60:13,60:15,60:17,60:19,60:21": 22,
		// These have periods of more than 100000, which do not matter here.
		"3:0,17:0,37:0,53:0": 0, "3:1,17:2,37:3,53:5": 5, "59:1,58:2,57:3,55:4,53:5": 5,
	} {
		for length := range impl.MaxCover + 1 {
			got, ok := impl.IsCover(readRules(t, text), length)
			wantValue(t, of("IsCover of "+text, length), got, ok, length <= most)
		}
	}
	got, ok := impl.IsCover(manyRules(impl.MaxRules, impl.Rule{Every: 2, Rest: 1}), 1)
	wantValue(t, "IsCover of twelve rules", got, ok, true)
	got, ok = impl.IsCover(manyRules(impl.MaxRules+1, impl.Rule{Every: 2, Rest: 1}), 1)
	wantFail(t, "IsCover of thirteen rules", got, ok)
	for _, length := range []int{0, 1, impl.MaxCover} {
		for _, list := range [][]impl.Rule{rules(1, 0), rules(61, 1), rules(2, 2), rules(2, -1), append(rules(2, 1, 2, 0), impl.Rule{Every: 61})} {
			got, ok := impl.IsCover(slices.Clone(list), length)
			wantFail(t, "IsCover of no rules", got, ok)
		}
	}
}
