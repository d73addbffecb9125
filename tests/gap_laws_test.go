package tests

// Promise 8 for many rules: each function of gaps does what its description says in the plainest words, and functions agree with each other.

import (
	"slices"
	"testing"

	"loop.example/g01235/impl"
)

// plainRound returns the period of rules, at most 100000, and the numbers 0, .., period - 1 that are left. It returns 0 if there is none.
func plainRound(list []impl.Rule) (int, []int) {
	period := plainPeriod(list)
	if period == 0 {
		return 0, nil
	}
	numbers := plainLeft(list, 0, period-1)
	if len(numbers) == 0 {
		return 0, nil
	}
	return period, numbers
}

// someRounds returns count lists of rules that leave some number, with a period of at most most, and a few more with short periods. For MaxWheel it adds the greatest periods of wheels, and greater ones.
func someRounds(count int, most int, seed int64) [][]impl.Rule {
	lists := append(someWheels(count, most, seed), rules(2, 1), rules(3, 1), rules(5, 2), rules(60, 30), rules(4, 0, 6, 1), rules(10, 3, 15, 4))
	if most == impl.MaxWheel {
		lists = append(lists, greatWheels()...)
		lists = append(lists, greatRules(), rules(8, 7, 3, 0, 5, 4, 49, 48, 17, 16), rules(2, 0, 3, 0, 5, 0, 7, 0, 11, 0, 13, 0), oneIn864(), fourIn4320(2))
	}
	return lists
}

// sumOf adds numbers.
func sumOf(numbers []int) int {
	sum := 0
	for _, n := range numbers {
		sum += n
	}
	return sum
}

// gapsOf returns GapsOfPeriod, which is to succeed.
func gapsOf(t *testing.T, list []impl.Rule) []int {
	t.Helper()
	gaps, ok := impl.GapsOfPeriod(list)
	if !ok {
		t.Fatal("GapsOfPeriod fails", list)
	}
	return gaps
}

func TestGapsOfPeriodArePlain(t *testing.T) {
	looked := 0
	for _, list := range append(someRules(300, 101), someRounds(0, impl.MaxWheel, 102)...) {
		period, numbers := plainRound(list)
		if period == 0 {
			for _, n := range []int{1, 2, 60} {
				for _, c := range periodCalls(list, n) {
					wantZeros(t, c.name, wantNoPanic(t, c))
				}
			}
			continue
		}
		looked++
		gaps := gapsOf(t, list)
		wantValue(t, "GapsOfPeriod", gaps, true, plainSteps(list, numbers))
		told, ok := impl.PeriodOfRules(list)
		wantValue(t, "GapsOfPeriod together", sumOf(gaps), ok, told)
		left, ok := impl.LeftInPeriod(list)
		wantValue(t, "how many GapsOfPeriod are", len(gaps), ok, left)
	}
	if looked < 100 || looked > 290 {
		t.Error("the test has too few periods, or too few others:", looked)
	}
}

// TestGapsLeadAlong has that the gaps lead from each number that is left to the next one, up to most.
func TestGapsLeadAlong(t *testing.T) {
	for _, list := range append(someRules(120, 103), longPeriods()...) {
		for _, most := range []int{0, 1, 2, 3, 7, 59, 60, 61, 300, impl.MaxNumber - 1, impl.MaxNumber} {
			numbers, ok := impl.LeftUpTo(list, most)
			gaps, fine := impl.GapsUpTo(list, most)
			if !ok || !fine || len(gaps) != max(0, len(numbers)-1) {
				t.Fatal("GapsUpTo are not as many as LeftUpTo tells", list, most, gaps, numbers)
			}
			for k, gap := range gaps {
				next, ok := impl.NextLeft(list, numbers[k])
				wantValue(t, "NextLeft behind a gap", next, ok, numbers[k]+gap)
				wantValue(t, "LeftUpTo behind a gap", numbers[k+1], ok, numbers[k]+gap)
			}
		}
	}
}

// TestGapsUpToAreOfThePeriod goes from the first number that is left, not 0, along the gaps of the period again and again.
func TestGapsUpToAreOfThePeriod(t *testing.T) {
	for _, list := range someRounds(150, impl.MaxWheel, 104) {
		_, numbers := plainRound(list)
		gaps := gapsOf(t, list)
		upToMost, ok := impl.GapsUpTo(list, impl.MaxNumber)
		from := 0
		if numbers[0] == 0 {
			from = 1
		}
		for k, gap := range upToMost {
			wantValue(t, "one of GapsUpTo", gap, ok, gaps[(from+k)%len(gaps)])
		}
	}
}

func TestLongestGapsAgree(t *testing.T) {
	for _, list := range someRounds(200, impl.MaxWheel, 105) {
		_, numbers := plainRound(list)
		gaps := gapsOf(t, list)
		gap, n, ok := impl.LongestGap(list)
		k := slices.Index(gaps, slices.Max(gaps))
		wantValue(t, "LongestGap", []int{gap, n}, ok, []int{gaps[k], numbers[k]})
		wantValue(t, "what is left behind LongestGap", plainLeft(list, n, n+gap), ok, []int{n, n + gap})
		run, ok := impl.LongestRunOut(list)
		wantValue(t, "LongestRunOut", run, ok, gap-1)
		if n <= impl.MaxNumber && gap <= 1000 {
			next, ok := impl.NextLeft(list, n)
			wantValue(t, "NextLeft", next, ok, n+gap)
		}
	}
}

func TestCountsOfGapsAgree(t *testing.T) {
	for _, list := range someRounds(80, impl.MaxWheel, 106) {
		gaps := gapsOf(t, list)
		counts := countsOf(gaps)
		all, together := 0, 0
		for _, gap := range upTo(1, min(slices.Max(gaps)+2, 70)) {
			count, ok := impl.CountGaps(list, gap)
			wantValue(t, of("CountGaps", gap), count, ok, counts[gap])
			all += count
			together += gap * count
		}
		for gap := range counts {
			if gap <= 70 {
				continue
			}
			count, ok := impl.CountGaps(list, gap)
			wantValue(t, of("CountGaps", gap), count, ok, counts[gap])
			all += count
			together += gap * count
		}
		period, ok := impl.PeriodOfRules(list)
		wantValue(t, "the counts of all gaps together", all, ok, len(gaps))
		wantValue(t, "all gaps together", together, ok, period)
	}
}

// TestRecordsAreOfGaps has that the records are just those of GapsUpTo that are greater than all before them.
func TestRecordsAreOfGaps(t *testing.T) {
	long := 0
	for _, list := range append(someRules(150, 107), longPeriods()...) {
		for _, most := range []int{0, 1, 2, 5, 17, 60, 299, impl.MaxNumber - 1, impl.MaxNumber} {
			numbers, ok := impl.LeftUpTo(list, most)
			gaps, fine := impl.GapsUpTo(list, most)
			var want [][]int
			for k, gap := range gaps {
				if k == 0 || gap > slices.Max(gaps[:k]) {
					want = append(want, []int{numbers[k], gap})
				}
			}
			got, told := impl.RecordGaps(list, most)
			wantValue(t, of("RecordGaps", most), got, ok && fine && told, want)
			if len(got) > 2 {
				long++
			}
		}
	}
	if long < 50 {
		t.Error("the test has too few long lists of records:", long)
	}
}

// plainRun returns the length of the longest run of numbers of which isTaken is true, in 0..most.
func plainRun(most int, isTaken func(n int) bool) int {
	longest, run := 0, 0
	for n := range most + 1 {
		run++
		if !isTaken(n) {
			run = 0
		}
		longest = max(longest, run)
	}
	return longest
}

func TestRunsArePlain(t *testing.T) {
	for _, list := range someRounds(250, impl.MaxWheel, 108) {
		period := plainPeriod(list)
		run, ok := impl.LongestRunOut(list)
		wantValue(t, "LongestRunOut", run, ok, plainRun(2*period, func(n int) bool { return crossedOut(list, n) }))
		run, ok = impl.LongestRunLeft(list)
		if len(list) == 0 {
			wantFail(t, "LongestRunLeft of no rules", run, ok)
			continue
		}
		wantValue(t, "LongestRunLeft", run, ok, plainRun(2*period, func(n int) bool { return !crossedOut(list, n) }))
	}
}

// TestRunsFillWindows has that all numbers of some window are left exactly if it is no wider than LongestRunLeft, and none exactly if it is no wider than LongestRunOut.
func TestRunsFillWindows(t *testing.T) {
	for _, list := range someRounds(60, 360, 109) {
		if len(list) == 0 {
			continue
		}
		left, leftOK := impl.LongestRunLeft(list)
		out, outOK := impl.LongestRunOut(list)
		for width := 1; width <= mostWindow; width++ {
			most, ok := impl.MostInWindow(list, width)
			wantValue(t, "whether a window is full", most == width, ok && leftOK, width <= left)
			least, ok := impl.LeastInWindow(list, width)
			wantValue(t, "whether a window is empty", least == 0, ok && outOK, width <= out)
		}
	}
}

// plainWindows returns the greatest and the least number of numbers that are left in windows that begin with 0, .., period - 1.
func plainWindows(list []impl.Rule, period int, width int) (int, int) {
	// before has how many of the numbers less than n are left.
	before := []int{0}
	for n := range period + width {
		count := 1
		if crossedOut(list, n) {
			count = 0
		}
		before = append(before, before[n]+count)
	}
	most, least := 0, width
	for n := range period {
		most = max(most, before[n+width]-before[n])
		least = min(least, before[n+width]-before[n])
	}
	return most, least
}

func TestWindowsArePlain(t *testing.T) {
	for i, list := range someRounds(100, impl.MaxWheel, 110) {
		period, _ := plainRound(list)
		for _, width := range append(someNumbers(4, 0, mostWindow, int64(1100+i)), 0, 1, 2, mostWindow, min(period, mostWindow), min(period+1, mostWindow)) {
			most, least := plainWindows(list, period, width)
			got, ok := impl.MostInWindow(list, width)
			wantValue(t, of("MostInWindow", width), got, ok, most)
			got, ok = impl.LeastInWindow(list, width)
			wantValue(t, of("LeastInWindow", width), got, ok, least)
		}
	}
}

func TestWindowsAgreeWithCounts(t *testing.T) {
	for i, list := range someRounds(80, 360, 111) {
		period, _ := plainRound(list)
		for _, width := range append(someNumbers(4, 1, mostWindow, int64(1110+i)), 1, 2, 3, mostWindow, min(period, mostWindow)) {
			var counts []int
			for low := range period {
				count, ok := impl.CountBetween(list, low, low+width-1)
				if !ok {
					t.Fatal("CountBetween fails", list, low, width)
				}
				counts = append(counts, count)
			}
			most, ok := impl.MostInWindow(list, width)
			wantValue(t, of("MostInWindow", width), most, ok, slices.Max(counts))
			least, ok := impl.LeastInWindow(list, width)
			wantValue(t, of("LeastInWindow", width), least, ok, slices.Min(counts))
		}
	}
}

// movedBy returns the rules with a number added to all Rest, without the program.
func movedBy(list []impl.Rule, by int) []impl.Rule {
	moved := slices.Clone(list)
	for k, r := range list {
		moved[k].Rest = (r.Rest + by) % r.Every
	}
	return moved
}

// TestWindowsAreFoundAnywhere has rules by which just one window of a period has the most numbers and just one the fewest, and moves these along the period.
func TestWindowsAreFoundAnywhere(t *testing.T) {
	for _, c := range []struct {
		rules                            string
		width, period, step, most, least int
	}{
		{"4:0,9:6,9:7,9:0,7:2,7:4,7:3", 10, 252, 1, 6, 0}, {"4:0,9:0,9:5,9:2,7:2,7:0", 25, 252, 1, 13, 5}, {"5:3,7:2,11:7,11:9,11:4,13:8", 60, 5005, 35, 32, 23},
	} {
		list := readRules(t, c.rules)
		fullest, emptiest := 0, 0
		for first := range c.period {
			switch len(plainLeft(list, first, first+c.width-1)) {
			case c.most:
				fullest++
			case c.least:
				emptiest++
			}
		}
		if fullest != 1 || emptiest != 1 {
			t.Error("the test has rules with other windows", c.rules, fullest, emptiest)
		}
		for by := 0; by < c.period; by += c.step {
			most, ok := impl.MostInWindow(movedBy(list, by), c.width)
			wantValue(t, of("MostInWindow of rules moved by", by), most, ok, c.most)
			least, ok := impl.LeastInWindow(movedBy(list, by), c.width)
			wantValue(t, of("LeastInWindow of rules moved by", by), least, ok, c.least)
		}
	}
}

// TestPairsAgreeWithNumbers looks at a period that begins with -MaxNumber.
func TestPairsAgreeWithNumbers(t *testing.T) {
	for i, list := range someRounds(80, 200, 112) {
		period, _ := plainRound(list)
		for _, apart := range append(someNumbers(6, 0, mostPairApart, int64(1120+i)), 0, 1, 2, period, 999, mostPairApart) {
			want := 0
			for n := -impl.MaxNumber; n < period-impl.MaxNumber; n++ {
				here, ok := impl.IsLeft(list, n)
				there, fine := impl.IsLeft(list, n+apart)
				if !ok || !fine {
					t.Fatal("IsLeft fails", list, n, apart)
				}
				if here && there {
					want++
				}
			}
			got, ok := impl.PairsInPeriod(list, apart)
			wantValue(t, of("PairsInPeriod", apart), got, ok, want)
		}
	}
}

// TestPairsTogether has that all distances up to a period are together all pairs of numbers that are left, and that no distance and each period tell those themselves.
func TestPairsTogether(t *testing.T) {
	for _, list := range someRounds(80, 600, 113) {
		period, ok := impl.PeriodOfRules(list)
		left, fine := impl.LeftInPeriod(list)
		sum := 0
		for apart := range period {
			pairs, ok := impl.PairsInPeriod(list, apart)
			back, fine := impl.PairsInPeriod(list, period-apart)
			wantValue(t, "PairsInPeriod of a distance and of the rest of the period", pairs, ok && fine, back)
			sum += pairs
		}
		wantValue(t, "PairsInPeriod together", sum, ok && fine, left*left)
		for apart := 0; apart <= mostPairApart; apart += period {
			pairs, ok := impl.PairsInPeriod(list, apart)
			wantValue(t, of("PairsInPeriod", apart), pairs, ok, left)
		}
	}
	for _, list := range someRounds(20, impl.MaxWheel, 114) {
		left, ok := impl.LeftInPeriod(list)
		pairs, fine := impl.PairsInPeriod(list, 0)
		wantValue(t, "PairsInPeriod of 0", pairs, ok && fine, left)
	}
}

// TestGapsOfMovedRules has that gaps, runs, windows and pairs are the same wherever a period begins, and in which direction it is told.
func TestGapsOfMovedRules(t *testing.T) {
	for i, list := range someRounds(80, 1200, 115) {
		moved, movedOK := impl.MoveRules(list, i*7%1201-impl.MaxNumber)
		mirrored, mirroredOK := impl.MirrorRules(list)
		if !movedOK || !mirroredOK {
			t.Fatal("rules are not moved or mirrored", list)
		}
		for _, other := range [][]impl.Rule{moved, mirrored} {
			wantValue(t, "the counts of GapsOfPeriod", countsOf(gapsOf(t, other)), true, countsOf(gapsOf(t, list)))
			for _, n := range []int{1, 2, 6, 30, mostWindow} {
				calls := periodCalls(other, n)
				for k, c := range periodCalls(list, n) {
					if c.name == "GapsOfPeriod" || c.name == "LongestGap" {
						continue
					}
					if values := wantNoPanic(t, calls[k]); !sameResults(values, wantNoPanic(t, c)) {
						t.Error(of(c.name, n), "is another one of moved or mirrored rules", list, other, values)
					}
				}
			}
		}
	}
}
