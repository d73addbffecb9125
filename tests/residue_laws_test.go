package tests

// Promise 5 for many patterns: each function does what its description says in the plainest words, and functions agree with each other.

import (
	"math/rand"
	"slices"
	"testing"

	"loop.example/g01235/impl"
)

// somePatterns returns count patterns, the same ones for each run: those at limits, open ones, and others, of which some are open and some closed.
func somePatterns(count int, seed int64) [][]int {
	random := rand.New(rand.NewSource(seed))
	patterns := slices.Concat(patternsAtLimits(), openOnes())
	for len(patterns) < count {
		apart := []int{1, 2, 2, 6}[random.Intn(4)]
		offsets := []int{0}
		for _, k := range random.Perm(impl.MaxWidth / apart)[:random.Intn(impl.MaxOffsets)] {
			offsets = append(offsets, apart*(k+1))
		}
		slices.Sort(offsets)
		patterns = append(patterns, offsets)
	}
	return patterns
}

// allPatterns returns all patterns of n offsets with a width, in order, of which most are closed.
func allPatterns(n int, width int) [][]int {
	var all [][]int
	var add func(offsets []int)
	add = func(offsets []int) {
		last := offsets[len(offsets)-1]
		if len(offsets) == n && last == width {
			all = append(all, offsets)
		}
		if len(offsets) == n {
			return
		}
		for next := last + 1; next <= width; next++ {
			add(append(slices.Clip(offsets), next))
		}
	}
	add([]int{0})
	return all
}

// takesRest reports whether a number has a remainder.
func takesRest(numbers []int, prime int, rest int) bool {
	return slices.ContainsFunc(numbers, func(n int) bool { return (n-rest)%prime == 0 })
}

// plainClosing asks all primes up to more than any offset. It returns 0 for an open pattern.
func plainClosing(offsets []int) int {
	for _, p := range primesIn(primeTable(61), 2, 61) {
		if !slices.ContainsFunc(upTo(0, p-1), func(rest int) bool { return !takesRest(offsets, p, rest) }) {
			return p
		}
	}
	return 0
}

// isPlainPlace reports whether none of the primes divides n and an offset together.
func isPlainPlace(offsets []int, primes []int, n int) bool {
	for _, offset := range offsets {
		for _, p := range primes {
			if (n+offset)%p == 0 {
				return false
			}
		}
	}
	return true
}

func productOf(numbers []int) int {
	product := 1
	for _, n := range numbers {
		product *= n
	}
	return product
}

func isPlainPattern(list []int) bool {
	if len(list) == 0 || len(list) > 8 || list[0] != 0 || slices.Max(list) > 60 {
		return false
	}
	for k := range list {
		for _, before := range list[:k] {
			if before >= list[k] {
				return false
			}
		}
	}
	return true
}

// TestPatternsArePlain has patterns in which one number is another one.
func TestPatternsArePlain(t *testing.T) {
	random := rand.New(rand.NewSource(61))
	patterns, others := 0, 0
	for _, offsets := range somePatterns(400, 62) {
		for range 10 {
			list := slices.Clone(offsets)
			list[random.Intn(len(list))] += random.Intn(9) - 4
			want := isPlainPattern(list)
			if impl.IsPattern(list) != want {
				t.Error("IsPattern is", !want, "of", list)
			}
			if want {
				patterns++
			} else {
				others++
			}
		}
		if !impl.IsPattern(offsets) {
			t.Error("this is a pattern:", offsets)
		}
	}
	if patterns < 500 || others < 500 {
		t.Error("the test has too few lists of one kind:", patterns, others)
	}
}

func TestRestsArePlain(t *testing.T) {
	for _, offsets := range somePatterns(400, 63) {
		for p := -3; p <= 40; p++ {
			got, ok := impl.RestsOf(offsets, p)
			if !slices.Contains(firstSix(), p) {
				wantFail(t, "RestsOf", got, ok)
				continue
			}
			wantValue(t, "RestsOf", got, ok, slices.DeleteFunc(upTo(0, p-1), func(rest int) bool { return !takesRest(offsets, p, rest) }))
		}
	}
}

// TestOpenLeavesRemainders has IsOpen with FirstClosing, and both with RestsOf.
func TestOpenLeavesRemainders(t *testing.T) {
	closed := map[int]int{}
	for _, offsets := range somePatterns(3000, 64) {
		want := plainClosing(offsets)
		closed[want]++
		open, ok := impl.IsOpen(offsets)
		wantValue(t, "IsOpen", open, ok, want == 0)
		first, ok := impl.FirstClosing(offsets)
		if want == 0 {
			wantFail(t, "FirstClosing", first, ok)
		} else {
			wantValue(t, "FirstClosing", first, ok, want)
		}
		byRests := 0
		for _, p := range slices.Backward(firstSix()) {
			rests, ok := impl.RestsOf(offsets, p)
			if !ok || len(rests) > min(p, len(offsets)) {
				t.Error("RestsOf are more than there can be", offsets, p, rests)
			}
			if len(rests) == p {
				byRests = p
			}
		}
		wantValue(t, "the least prime with all remainders", byRests, true, want)
	}
	for _, p := range []int{0, 2, 3, 5} {
		if closed[p] < 50 {
			t.Error("the test has too few patterns of one kind:", closed)
		}
	}
}

// TestPatternsOfSevenAndEight has all patterns of 7 and 8 even offsets up to 32, among them those that 7 closes and no less prime.
func TestPatternsOfSevenAndEight(t *testing.T) {
	bySeven := 0
	for n := 7; n <= 8; n++ {
		for half := n - 1; half <= 16; half++ {
			for _, offsets := range allPatterns(n, half) {
				for k := range offsets {
					offsets[k] *= 2
				}
				want := plainClosing(offsets)
				open, ok := impl.IsOpen(offsets)
				wantValue(t, "IsOpen", open, ok, want == 0)
				first, closed := impl.FirstClosing(offsets)
				wantValue(t, "FirstClosing, 0 if it fails", first, closed == (want != 0), want)
				if want == 7 {
					bySeven++
				}
			}
		}
	}
	if bySeven < 25 {
		t.Error("the test has too few patterns that 7 closes:", bySeven)
	}
}

// TestAllOpenArePlain looks at all patterns that there are, with odd offsets, too.
func TestAllOpenArePlain(t *testing.T) {
	for n := 1; n <= 6; n++ {
		for width := range 31 {
			want := slices.DeleteFunc(allPatterns(n, width), func(offsets []int) bool { return plainClosing(offsets) != 0 })
			got, ok := impl.AllOpen(n, width)
			wantValue(t, "AllOpen", got, ok, want)
			count, ok := impl.CountOpen(n, width)
			wantValue(t, "CountOpen", count, ok, len(want))
		}
	}
}

func TestNarrowestIsFirstOfAll(t *testing.T) {
	for n := 1; n <= 6; n++ {
		narrowest, ok := impl.NarrowestOpen(n)
		if !ok || len(narrowest) != n {
			t.Fatal("no NarrowestOpen", n, narrowest)
		}
		for width := range narrowest[n-1] {
			count, ok := impl.CountOpen(n, width)
			wantValue(t, "CountOpen of less than the least width", count, ok, 0)
			all, ok := impl.AllOpen(n, width)
			wantValue(t, "AllOpen of less than the least width", all, ok, nil)
		}
		count, ok := impl.CountOpen(n, narrowest[n-1])
		all, fine := impl.AllOpen(n, narrowest[n-1])
		if !ok || !fine || count == 0 || count != len(all) {
			t.Fatal("no patterns of the least width", n, count, all)
		}
		wantValue(t, "NarrowestOpen", narrowest, fine, all[0])
	}
}

// TestAllOpenAreOpen has the open patterns told back, too: they are the same ones in another order.
func TestAllOpenAreOpen(t *testing.T) {
	for n := 1; n <= 6; n++ {
		for width := range 31 {
			all, ok := impl.AllOpen(n, width)
			if !ok || !slices.IsSortedFunc(all, slices.Compare) {
				t.Fatal("AllOpen are not in order", n, width, all)
			}
			var told [][]int
			for _, offsets := range all {
				open, fine := impl.IsOpen(offsets)
				wantValue(t, "IsOpen", open, fine, true)
				back, fine := impl.BackPattern(offsets)
				if !fine || len(back) != n || back[n-1] != width {
					t.Fatal("BackPattern of an open one", offsets, back)
				}
				told = append(told, back)
			}
			slices.SortFunc(told, slices.Compare)
			wantValue(t, "AllOpen told back", told, true, all)
		}
	}
}

func TestBackPatternTwice(t *testing.T) {
	for _, offsets := range somePatterns(600, 65) {
		back, ok := impl.BackPattern(offsets)
		width := offsets[len(offsets)-1]
		want := slices.DeleteFunc(upTo(0, width), func(n int) bool { return !slices.Contains(offsets, width-n) })
		wantValue(t, "BackPattern", back, ok, want)
		twice, ok := impl.BackPattern(back)
		wantValue(t, "BackPattern twice", twice, ok, offsets)
		open, ok := impl.IsOpen(offsets)
		openBack, fine := impl.IsOpen(back)
		wantValue(t, "IsOpen of BackPattern", openBack, ok && fine, open)
		for primes := range 7 {
			count, ok := impl.PlacesInPeriod(offsets, primes)
			countBack, fine := impl.PlacesInPeriod(back, primes)
			wantValue(t, "PlacesInPeriod of BackPattern", countBack, ok && fine, count)
		}
	}
}

func TestPlacesAreAsManyAsTold(t *testing.T) {
	for _, offsets := range somePatterns(70, 66) {
		for primes := range 7 {
			first := firstSix()[:primes]
			period := productOf(first)
			want := 0
			for n := -period / 3; n < period-period/3; n++ {
				if isPlainPlace(offsets, first, n) {
					want++
				}
			}
			got, ok := impl.PlacesInPeriod(offsets, primes)
			wantValue(t, "PlacesInPeriod", got, ok, want)
			product := 1
			for _, p := range first {
				rests, _ := impl.RestsOf(offsets, p)
				product *= p - len(rests)
			}
			wantValue(t, "PlacesInPeriod", got, ok, product)
		}
	}
}

// TestOpenHavePlaces has that a pattern has no place exactly if one of the primes told closes it.
func TestOpenHavePlaces(t *testing.T) {
	for _, offsets := range somePatterns(600, 67) {
		closing := plainClosing(offsets)
		for primes := range 7 {
			closed := slices.Contains(firstSix()[:primes], closing)
			count, ok := impl.PlacesInPeriod(offsets, primes)
			wantValue(t, "whether there are no places", count == 0, ok, closed)
			if places, ok := impl.FirstPlaces(offsets, primes, impl.MaxNumber); closed {
				wantValue(t, "FirstPlaces of a closed pattern", places, ok, nil)
			}
		}
	}
}

func TestFirstPlacesArePlain(t *testing.T) {
	for _, offsets := range somePatterns(120, 68) {
		for primes := range 7 {
			places := slices.DeleteFunc(upTo(1, impl.MaxNumber), func(n int) bool { return !isPlainPlace(offsets, firstSix()[:primes], n) })
			for _, most := range []int{0, 1, 29, 30, 31, 210, 599, impl.MaxNumber} {
				got, ok := impl.FirstPlaces(offsets, primes, most)
				wantValue(t, "FirstPlaces", got, ok, cutAt(places, most))
			}
		}
	}
}

// plainRules asks all remainders of each prime.
func plainRules(offsets []int, primes []int) []impl.Rule {
	var list []impl.Rule
	for _, p := range primes {
		for rest := range p {
			if !isPlainPlace(offsets, []int{p}, rest) {
				list = append(list, impl.Rule{Every: p, Rest: rest})
			}
		}
	}
	return list
}

// TestRulesLeavePlaces has RulesOfPattern with the functions of chapter 1, and with those that tell places.
func TestRulesLeavePlaces(t *testing.T) {
	tooMany := 0
	for _, offsets := range somePatterns(90, 69) {
		for primes := range 7 {
			want := plainRules(offsets, firstSix()[:primes])
			list, ok := impl.RulesOfPattern(offsets, primes)
			places, placed := impl.FirstPlaces(offsets, primes, impl.MaxNumber)
			count, counted := impl.PlacesInPeriod(offsets, primes)
			if !placed || !counted {
				t.Fatal("no places", offsets, primes)
			}
			if len(want) > impl.MaxRules {
				wantFail(t, "RulesOfPattern", list, ok)
				tooMany++
				continue
			}
			wantValue(t, "RulesOfPattern", list, ok, want)
			left, fine := impl.LeftUpTo(list, impl.MaxNumber)
			wantValue(t, "LeftUpTo of RulesOfPattern", left, fine, places)
			inPeriod, fine := impl.LeftInPeriod(list)
			wantValue(t, "LeftInPeriod of RulesOfPattern", inPeriod, fine, count)
			period, fine := impl.PeriodOfRules(list)
			wantValue(t, "PeriodOfRules of RulesOfPattern", period, fine, productOf(firstSix()[:primes]))
			for n := -impl.MaxNumber; n <= impl.MaxNumber; n++ {
				isLeft, fine := impl.IsLeft(list, n)
				wantValue(t, "IsLeft by RulesOfPattern", isLeft, fine, isPlainPlace(offsets, firstSix()[:primes], n))
			}
		}
	}
	if tooMany < 50 {
		t.Error("the test has too few patterns with too many rules:", tooMany)
	}
}

// TestRulesOfOneOffset has the pattern 0, whose rules are those of the first primes.
func TestRulesOfOneOffset(t *testing.T) {
	for primes := range 7 {
		want, fine := impl.RulesOfPrimes(primes)
		got, ok := impl.RulesOfPattern([]int{0}, primes)
		wantValue(t, "RulesOfPattern of one offset", got, ok && fine, want)
	}
}

func TestPrimePlacesArePrime(t *testing.T) {
	found := 0
	for _, offsets := range somePatterns(200, 70) {
		notAllPrime := func(n int) bool {
			return slices.ContainsFunc(offsets, func(offset int) bool {
				prime, ok := impl.IsPrime(n + offset)
				return !ok || !prime
			})
		}
		want := slices.DeleteFunc(upTo(1, impl.MaxNumber), notAllPrime)
		found += len(want)
		for _, most := range []int{0, 1, 2, 3, 5, 100, 541, 599, impl.MaxNumber} {
			got, ok := impl.PrimePlaces(offsets, most)
			wantValue(t, "PrimePlaces", got, ok, cutAt(want, most))
		}
	}
	if found < 500 {
		t.Error("the test has too few places:", found)
	}
}

// TestPrimePlacesArePlaces has numbers less than the square of 17, of which those greater than 13 are prime exactly if no one of the first six primes divides them.
func TestPrimePlacesArePlaces(t *testing.T) {
	for _, offsets := range somePatterns(200, 71) {
		most := 17*17 - 1 - offsets[len(offsets)-1]
		primes, ok := impl.PrimePlaces(offsets, most)
		places, fine := impl.FirstPlaces(offsets, 6, most)
		small := func(n int) bool { return n <= 13 }
		wantValue(t, "PrimePlaces", slices.DeleteFunc(primes, small), ok && fine, slices.DeleteFunc(places, small))
	}
}

// listsOfPrimes returns all lists of different ones of the first six primes, in any order.
func listsOfPrimes() [][]int {
	lists := [][]int{nil}
	for k := 0; k < len(lists); k++ {
		for _, p := range firstSix() {
			if !slices.Contains(lists[k], p) {
				lists = append(lists, append(slices.Clip(lists[k]), p))
			}
		}
	}
	return lists
}

// TestNumbersWithRestsTellBack goes forwards from remainders to a number, and back: as it is less than the product of the primes, no less one has them.
func TestNumbersWithRestsTellBack(t *testing.T) {
	random := rand.New(rand.NewSource(72))
	lists := listsOfPrimes()
	if len(lists) != 1957 {
		t.Fatal("the test has not all lists:", len(lists))
	}
	for _, primes := range lists {
		for range 3 {
			rests := make([]int, len(primes))
			for k, p := range primes {
				rests[k] = random.Intn(p)
			}
			n, ok := impl.NumberWithRests(primes, rests)
			if n < 0 || n >= productOf(primes) {
				t.Error("NumberWithRests is not the least number", primes, rests, n)
			}
			back, fine := impl.RestsOfNumber(primes, n)
			wantValue(t, "RestsOfNumber of NumberWithRests", back, ok && fine, rests)
			for k, p := range primes {
				wantValue(t, "the remainder of NumberWithRests", n%p, ok, rests[k])
			}
		}
	}
}

// TestRestsOfNumbersTellBack goes from a number to its remainders, and forwards again.
func TestRestsOfNumbersTellBack(t *testing.T) {
	for i, primes := range listsOfPrimes() {
		for _, n := range someNumbers(5, 0, 1000000000, int64(7300+i)) {
			rests, ok := impl.RestsOfNumber(primes, n)
			for k, p := range primes {
				wantValue(t, "one of RestsOfNumber", rests[k], ok && len(rests) == len(primes), n-n/p*p)
			}
			back, fine := impl.NumberWithRests(primes, rests)
			wantValue(t, "NumberWithRests of RestsOfNumber", back, ok && fine, n%productOf(primes))
		}
	}
}

func TestAllNumbersWithRests(t *testing.T) {
	for _, primes := range [][]int{nil, {7}, {3, 2}, {2, 13, 5}, {11, 7, 13}, firstSix(), {13, 11, 7, 5, 3, 2}, {5, 13, 2, 11, 3, 7}} {
		for n := range productOf(primes) {
			rests, ok := impl.RestsOfNumber(primes, n)
			back, fine := impl.NumberWithRests(primes, rests)
			wantValue(t, "NumberWithRests of RestsOfNumber", back, ok && fine, n)
		}
	}
}

// TestRestsTellPlaces has that a number is a place exactly if it has none of the remainders of the offsets with the other sign.
func TestRestsTellPlaces(t *testing.T) {
	for _, offsets := range somePatterns(60, 74) {
		back, _ := impl.BackPattern(offsets)
		width := offsets[len(offsets)-1]
		places, ok := impl.FirstPlaces(offsets, 6, impl.MaxNumber)
		for n := 1; n <= impl.MaxNumber; n++ {
			rests, fine := impl.RestsOfNumber(firstSix(), n+width)
			isPlace := true
			for k, p := range firstSix() {
				crossed, told := impl.RestsOf(back, p)
				isPlace = isPlace && told && !slices.Contains(crossed, rests[k])
			}
			wantValue(t, "whether n is a place", slices.Contains(places, n), ok && fine, isPlace)
		}
	}
}

// withNumber returns the offsets and a number, increasing.
func withNumber(offsets []int, n int) []int {
	list := append(slices.Clone(offsets), n)
	slices.Sort(list)
	return list
}

func TestAddedOffsetsStayOpen(t *testing.T) {
	open, closed := 0, 0
	for _, offsets := range somePatterns(250, 75) {
		last := offsets[len(offsets)-1]
		isOpen, fine := impl.IsOpen(offsets)
		var all []int
		for n := range impl.MaxWidth + 1 {
			more := withNumber(offsets, n)
			if stays, ok := impl.IsOpen(more); ok && stays && plainClosing(more) == 0 && isPlainPattern(more) {
				all = append(all, n)
			}
		}
		for _, width := range []int{0, 1, last - 1, last, last + 1, last / 2, 59, impl.MaxWidth} {
			got, ok := impl.AddOffsets(offsets, width)
			if !isOpen || width < 0 || width > impl.MaxWidth {
				wantFail(t, "AddOffsets", got, ok)
				closed++
				continue
			}
			wantValue(t, "AddOffsets", got, ok && fine, cutAt(all, width))
			open++
		}
	}
	if open < 300 || closed < 300 {
		t.Error("the test has too few patterns of one kind:", open, closed)
	}
}

// TestAddedOffsetsAreAllOpen takes an offset out of each open pattern: AddOffsets tells it again.
func TestAddedOffsetsAreAllOpen(t *testing.T) {
	for n := 2; n <= 6; n++ {
		for width := range 31 {
			all, _ := impl.AllOpen(n, width)
			for _, offsets := range all {
				for k := 1; k < n; k++ {
					added, ok := impl.AddOffsets(slices.Concat(offsets[:k], offsets[k+1:]), width)
					wantValue(t, "whether AddOffsets tells the offset that was there", slices.Contains(added, offsets[k]), ok, true)
				}
			}
		}
	}
}

func TestSharesAreOfPlaces(t *testing.T) {
	for _, offsets := range somePatterns(150, 76) {
		for primes := range 7 {
			count, ok := impl.PlacesInPeriod(offsets, primes)
			places, period, fine := impl.ShareOfPlaces(offsets, primes)
			whole := productOf(firstSix()[:primes])
			wantValue(t, "the share of the whole period", places*whole, ok && fine, count*period)
			if period < 1 || whole%period != 0 {
				t.Error("the period of ShareOfPlaces is no part of the whole one", offsets, primes, period)
			}
			for _, p := range firstSix() {
				if places%p == 0 && period%p == 0 {
					t.Error("ShareOfPlaces are not divided by their common divisors", offsets, primes, places, period)
				}
			}
		}
	}
}
