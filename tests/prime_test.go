package tests

// Promise 3: primes are counted by their lists and by recursions.

import (
	"math"
	"slices"
	"testing"

	"loop.example/g01235/impl"
)

// firstTwelve are the first MaxFirst primes.
func firstTwelve() []int { return []int{2, 3, 5, 7, 11, 13, 17, 19, 23, 29, 31, 37} }

// greatPrimes are the greatest four primes up to MaxFactored.
func greatPrimes() []int { return []int{999999883, 999999893, 999999929, 999999937} }

// smallPrimes are the primes up to 100.
func smallPrimes() []int {
	return append(firstTwelve(), 41, 43, 47, 53, 59, 61, 67, 71, 73, 79, 83, 89, 97)
}

// falsePrimes are numbers that some tests take for primes: squares of primes, products of two great ones, and numbers that a power of 2, 3 or 5 takes for primes.
func falsePrimes() []int {
	return []int{
		0, 1, 4, 9, 25, 49, 121, 169, 289, 361, 529, 841, 961, 1369, 31601 * 31601, 31607 * 31607, 31607 * 31627, 31601 * 31643,
		91, 143, 323, 341, 561, 645, 1105, 1729, 2047, 2465, 2821, 6601, 8911, 1373653, 25326001, 161304001, 960946321, 999999999, 999999936, 999999938, impl.MaxFactored,
	}
}

func TestIsPrime(t *testing.T) {
	primes := slices.Concat(smallPrimes(), greatPrimes(), []int{7919, 9973, 31607, 65537, 1000003, 16777213, 500000003})
	for _, n := range primes {
		got, ok := impl.IsPrime(n)
		wantValue(t, "IsPrime of a prime", got, ok, true)
	}
	for _, n := range falsePrimes() {
		got, ok := impl.IsPrime(n)
		wantValue(t, "IsPrime of no prime", got, ok, false)
	}
	for n := range 101 {
		got, ok := impl.IsPrime(n)
		wantValue(t, "IsPrime", got, ok, slices.Contains(smallPrimes(), n))
	}
	for _, n := range []int{-1, -2, -7, impl.MaxFactored + 1, 1000000007} {
		got, ok := impl.IsPrime(n)
		wantFail(t, "IsPrime beyond", got, ok)
	}
}

func TestPrimesBetween(t *testing.T) {
	for _, c := range []struct {
		low, high int
		want      []int
	}{
		{0, 100, smallPrimes()}, {2, 97, smallPrimes()}, {3, 96, smallPrimes()[1:24]}, {98, 100, nil},
		{0, 0, nil}, {0, 1, nil}, {1, 1, nil}, {0, 2, []int{2}}, {1, 2, []int{2}}, {2, 2, []int{2}}, {2, 3, []int{2, 3}}, {3, 3, []int{3}}, {4, 4, nil}, {3, 5, []int{3, 5}}, {8, 10, nil},
		{9, 9, nil}, {25, 25, nil}, {24, 28, nil}, {961, 961, nil}, {960, 967, []int{967}}, {961, 966, nil},
		{5, 4, nil}, {7, 2, nil}, {2, 0, nil}, {1, 0, nil}, {2001, 0, nil}, {2002, 0, nil}, {impl.MaxFactored, 0, nil}, {impl.MaxFactored, impl.MaxFactored - 100, nil}, {impl.MaxFactored, impl.MaxFactored - 2001, nil},
		{999999883, impl.MaxFactored, greatPrimes()}, {999999884, 999999936, greatPrimes()[1:3]}, {999999937, 999999937, greatPrimes()[3:]}, {999999938, impl.MaxFactored, nil}, {impl.MaxFactored, impl.MaxFactored, nil},
		{31607, 31627, []int{31607, 31627}}, {31607 * 31607, 31607 * 31607, nil}, {31607 * 31627, 31607 * 31627, nil},
	} {
		got, ok := impl.PrimesBetween(c.low, c.high)
		wantValue(t, "PrimesBetween", got, ok, c.want)
	}
}

// TestWidePrimesBetween has lists that go as far as they may, and further.
func TestWidePrimesBetween(t *testing.T) {
	for _, c := range []struct{ low, high, count, first, last int }{
		{0, 2000, 303, 2, 1999}, {3, 2003, 303, 3, 2003}, {89, 2089, 293, 89, 2089}, {8000, 10000, 222, 8009, 9973},
		{impl.MaxFactored - 2000, impl.MaxFactored, 99, 999998003, 999999937}, {999997181, 999999181, 102, 999997181, 999999181},
	} {
		got, ok := impl.PrimesBetween(c.low, c.high)
		if !ok || len(got) != c.count || got[0] != c.first || got[len(got)-1] != c.last {
			t.Error("PrimesBetween", c, len(got), got, ok)
		}
	}
	for _, c := range [][2]int{
		{0, 2001}, {1, 2002}, {3, 2004}, {0, impl.MaxFactored}, {impl.MaxFactored - 2001, impl.MaxFactored}, {500000000, 500002001},
		{-1, 10}, {-1, -1}, {-5, -10}, {10, -1}, {0, -1}, {-2000, 0}, {impl.MaxFactored, impl.MaxFactored + 1}, {impl.MaxFactored + 1, impl.MaxFactored + 1}, {impl.MaxFactored + 1, impl.MaxFactored},
		{impl.MaxFactored + 1, 0}, {math.MinInt, math.MaxInt}, {math.MaxInt, math.MinInt}, {math.MinInt, 0}, {0, math.MaxInt}, {0, math.MinInt}, {math.MaxInt, 0},
	} {
		got, ok := impl.PrimesBetween(c[0], c[1])
		wantFail(t, "PrimesBetween beyond", got, ok)
	}
}

func TestCountPrimes(t *testing.T) {
	for n, want := range map[int]int{
		0: 0, 1: 0, 2: 1, 3: 2, 4: 2, 5: 3, 10: 4, 29: 10, 30: 10, 31: 11, 97: 25, 100: 25, 1000: 168, 2000: 303, 2003: 304, 9972: 1228, 9973: 1229, 9999: 1229, impl.MaxCounted: 1229,
	} {
		got, ok := impl.CountPrimes(n)
		wantValue(t, "CountPrimes", got, ok, want)
	}
	for _, n := range []int{-1, impl.MaxCounted + 1, 10007} {
		got, ok := impl.CountPrimes(n)
		wantFail(t, "CountPrimes beyond", got, ok)
	}
}

func TestCountWithout(t *testing.T) {
	for _, c := range [][3]int{
		{30, 0, 30}, {30, 1, 15}, {30, 2, 10}, {30, 3, 8}, {30, 4, 7}, {31, 3, 9}, {0, 0, 0}, {0, 3, 0}, {0, 12, 0}, {1, 0, 1}, {1, 1, 1}, {1, 12, 1}, {2, 0, 2}, {2, 1, 1}, {2, 12, 1}, {3, 1, 2}, {3, 2, 1},
		{36, 12, 1}, {37, 11, 2}, {37, 12, 1}, {40, 12, 1}, {41, 12, 2}, {41, 11, 3}, {1680, 12, 252}, {1681, 12, 253}, {9999, 0, 9999}, {9999, 1, 5000}, {9999, 12, 1470},
	} {
		got, ok := impl.CountWithout(c[0], c[1])
		wantValue(t, "CountWithout", got, ok, c[2])
	}
	for k, want := range []int{10000, 5000, 3333, 2666, 2285, 2077, 1917, 1806, 1711, 1634, 1574, 1517, 1470} {
		got, ok := impl.CountWithout(impl.MaxCounted, k)
		wantValue(t, "CountWithout of MaxCounted", got, ok, want)
	}
	for _, c := range [][2]int{{-1, 0}, {-1, 3}, {-30, 3}, {impl.MaxCounted + 1, 0}, {impl.MaxCounted + 1, 3}, {30, -1}, {0, -1}, {30, impl.MaxFirst + 1}, {0, impl.MaxFirst + 1}, {-1, -1}, {impl.MaxCounted + 1, impl.MaxFirst + 1}} {
		got, ok := impl.CountWithout(c[0], c[1])
		wantFail(t, "CountWithout beyond", got, ok)
	}
}

func TestPrimeOfRank(t *testing.T) {
	for rank, want := range map[int]int{0: 2, 1: 3, 2: 5, 3: 7, 4: 11, 11: 37, 24: 97, 25: 101, 302: 1999, 303: 2003, 1226: 9949, 1227: 9967, 1228: 9973} {
		got, ok := impl.PrimeOfRank(rank)
		wantValue(t, "PrimeOfRank", got, ok, want)
	}
	for _, rank := range []int{-1, 1229, 1230} {
		got, ok := impl.PrimeOfRank(rank)
		wantFail(t, "PrimeOfRank beyond", got, ok)
	}
}

// TestNextPrime has the longest way to go, behind 492113, too.
func TestNextPrime(t *testing.T) {
	for n, want := range map[int]int{
		0: 2, 1: 2, 2: 3, 3: 5, 4: 5, 5: 7, 6: 7, 7: 11, 23: 29, 24: 29, 113: 127, 120: 127, 9972: 9973, 9973: 10007, impl.MaxCounted: 10007, 492112: 492113, 492113: 492227, 492226: 492227,
		999982: 999983, 999983: 1000003, 999999: 1000003, 1000000: 1000003,
	} {
		got, ok := impl.NextPrime(n)
		wantValue(t, "NextPrime", got, ok, want)
	}
	for _, n := range []int{-1, -2, 1000001, 1000002, 1000003, impl.MaxFactored} {
		got, ok := impl.NextPrime(n)
		wantFail(t, "NextPrime beyond", got, ok)
	}
}

// numberFactors are a number and its factors.
type numberFactors struct {
	n       int
	factors [][]int
}

// knownFactors has the greatest powers of small primes, the greatest squares of primes, and great products of two primes near each other, too.
func knownFactors() []numberFactors {
	known := []numberFactors{
		{1, nil}, {4, [][]int{{2, 2}}}, {6, [][]int{{2, 1}, {3, 1}}}, {8, [][]int{{2, 3}}}, {9, [][]int{{3, 2}}}, {12, [][]int{{2, 2}, {3, 1}}}, {18, [][]int{{2, 1}, {3, 2}}},
		{25, [][]int{{5, 2}}}, {35, [][]int{{5, 1}, {7, 1}}}, {49, [][]int{{7, 2}}}, {360, [][]int{{2, 3}, {3, 2}, {5, 1}}}, {1001, [][]int{{7, 1}, {11, 1}, {13, 1}}},
		{536870912, [][]int{{2, 29}}}, {387420489, [][]int{{3, 18}}}, {244140625, [][]int{{5, 12}}}, {31601 * 31601, [][]int{{31601, 2}}}, {31607 * 31607, [][]int{{31607, 2}}},
		{31607 * 31627, [][]int{{31607, 1}, {31627, 1}}}, {31601 * 31643, [][]int{{31601, 1}, {31643, 1}}}, {999999998, [][]int{{2, 1}, {691, 1}, {723589, 1}}}, {999999999, [][]int{{3, 4}, {37, 1}, {333667, 1}}},
		{735134400, [][]int{{2, 6}, {3, 3}, {5, 2}, {7, 1}, {11, 1}, {13, 1}, {17, 1}}}, {999999936, [][]int{{2, 6}, {3, 2}, {13, 1}, {83, 1}, {1609, 1}}}, {999999996, [][]int{{2, 2}, {3, 1}, {83333333, 1}}},
		{223092870, [][]int{{2, 1}, {3, 1}, {5, 1}, {7, 1}, {11, 1}, {13, 1}, {17, 1}, {19, 1}, {23, 1}}}, {999999986, [][]int{{2, 1}, {499999993, 1}}}, {impl.MaxFactored, [][]int{{2, 9}, {5, 9}}},
	}
	for _, p := range slices.Concat(smallPrimes(), greatPrimes()) {
		known = append(known, numberFactors{p, [][]int{{p, 1}}})
	}
	return known
}

func TestFactors(t *testing.T) {
	for _, c := range knownFactors() {
		factors, ok := impl.FactorsOf(c.n)
		wantValue(t, "FactorsOf", factors, ok, c.factors)
		n, ok := impl.NumberOfFactors(c.factors)
		wantValue(t, "NumberOfFactors", n, ok, c.n)
		radical := 1
		for _, f := range c.factors {
			radical *= f[0]
		}
		got, ok := impl.RadicalOf(c.n)
		wantValue(t, "RadicalOf", got, ok, radical)
		least, ok := impl.LeastFactor(c.n)
		if c.n == 1 {
			wantFail(t, "LeastFactor of 1", least, ok)
		} else {
			wantValue(t, "LeastFactor", least, ok, c.factors[0][0])
		}
	}
}

func TestNumbersBeyondFactoring(t *testing.T) {
	for _, n := range []int{-360, -2, -1, 0, impl.MaxFactored + 1, impl.MaxFactored + 2, 2 * impl.MaxFactored, 1 << 40} {
		factors, ok := impl.FactorsOf(n)
		wantFail(t, "FactorsOf beyond", factors, ok)
		radical, ok := impl.RadicalOf(n)
		wantFail(t, "RadicalOf beyond", radical, ok)
		least, ok := impl.LeastFactor(n)
		wantFail(t, "LeastFactor beyond", least, ok)
		smooth, ok := impl.IsSmooth(n, 7)
		wantFail(t, "IsSmooth beyond", smooth, ok)
	}
}

func TestNumberOfFactors(t *testing.T) {
	for _, c := range []numberFactors{
		{1, nil}, {1, [][]int{}}, {360, [][]int{{2, 3}, {3, 2}, {5, 1}}}, {impl.MaxFactored, [][]int{{2, 9}, {5, 9}}}, {536870912, [][]int{{2, 29}}}, {999999937, [][]int{{999999937, 1}}}, {31607 * 31607, [][]int{{31607, 2}}},
	} {
		n, ok := impl.NumberOfFactors(c.factors)
		wantValue(t, "NumberOfFactors", n, ok, c.n)
	}
}

// TestWrongFactors has numbers that are no primes, primes that are not increasing, lists that have not two numbers, and exponents that are less than 1.
func TestWrongFactors(t *testing.T) {
	for _, factors := range [][][]int{
		{{4, 1}}, {{1, 1}}, {{0, 1}}, {{-2, 1}}, {{-3, 2}}, {{6, 1}}, {{9, 1}}, {{1, 5}}, {{2, 1}, {9, 1}}, {{2, 1}, {4, 1}}, {{1, 1}, {2, 1}}, {{0, 1}, {2, 1}}, {{561, 1}}, {{31607 * 31607, 1}}, {{math.MinInt, 1}},
		{{3, 1}, {2, 1}}, {{2, 1}, {2, 1}}, {{2, 1}, {5, 1}, {3, 1}}, {{5, 1}, {2, 3}, {3, 2}}, {{2, 1}, {3, 1}, {3, 1}}, {{2, 1}, {3, 1}, {2, 1}},
		{{}}, {nil}, {{2}}, {{2, 1, 1}}, {{2, 1, 0}}, {{2, 1}, {}}, {{2, 1}, nil}, {nil, {2, 1}}, {{2, 1}, {3}}, {{2, 1}, {3, 1, 1}}, {{2, 3, 3, 2}}, {{2}, {3}}, make([][]int, 30),
		{{2, 0}}, {{2, -1}}, {{2, 0}, {3, 1}}, {{2, 1}, {3, 0}}, {{2, 1}, {3, -1}}, {{2, 3}, {3, 2}, {5, 0}}, {{2, math.MinInt}}, {{999999937, 0}},
	} {
		n, ok := impl.NumberOfFactors(factors)
		wantFail(t, "NumberOfFactors of no factors", n, ok)
	}
}

// manyFactors returns the first so many primes, each with the exponent 1.
func manyFactors(count int) [][]int {
	var factors [][]int
	for p := 2; len(factors) < count; p++ {
		if isPlainPrime(p) {
			factors = append(factors, []int{p, 1})
		}
	}
	return factors
}

// TestGreatFactors has factors of numbers greater than MaxFactored, of which some would be small again, as 64 bits are too few for them.
func TestGreatFactors(t *testing.T) {
	for _, factors := range [][][]int{
		{{7, 1}, {11, 1}, {13, 1}, {19, 1}, {52579, 1}}, {{2, 30}}, {{3, 19}}, {{2, 9}, {5, 10}}, {{2, 10}, {5, 9}}, {{2, 9}, {5, 9}, {7, 1}}, {{2, 9}, {3, 1}, {5, 9}}, {{2, 1}, {500000003, 1}}, {{2, 1}, {999999937, 1}},
		{{31607, 1}, {31643, 1}}, {{31607, 3}}, {{31627, 2}}, {{1000000007, 1}}, {{999999937, 2}}, {{999999929, 1}, {999999937, 1}}, {{1000000009, 1}}, {{4294967311, 1}}, {{math.MaxInt, 1}},
		{{2, 31}}, {{2, 32}}, {{2, 62}}, {{2, 63}}, {{2, 64}}, {{2, 65}}, {{2, 128}}, {{2, 1000}}, {{2, 64}, {3, 1}}, {{3, 41}}, {{2, 32}, {65537, 2}}, {{2, 1 << 32}}, {{2, 1<<32 + 1}}, {{2, math.MaxInt}},
		{{3, 1 << 62}}, {{3, 1<<62 + 1}}, {{5, 1 << 62}}, {{65537, 1 << 60}}, {{2, 1}, {3, 1 << 62}}, {{999999937, math.MaxInt}}, {{2, math.MaxInt}, {3, math.MaxInt}},
		manyFactors(10), manyFactors(16), manyFactors(29), manyFactors(30), manyFactors(31), manyFactors(1000),
	} {
		n, ok := impl.NumberOfFactors(factors)
		wantFail(t, "NumberOfFactors, too great", n, ok)
	}
	n, ok := impl.NumberOfFactors(manyFactors(9))
	wantValue(t, "NumberOfFactors of 9 lists", n, ok, 223092870)
}

func TestRadicalOf(t *testing.T) {
	for n, want := range map[int]int{1: 1, 2: 2, 3: 3, 4: 2, 360: 30, 361: 19, 50: 10, 1024: 2, 999999999: 3 * 37 * 333667, impl.MaxFactored: 10, 999999937: 999999937} {
		got, ok := impl.RadicalOf(n)
		wantValue(t, "RadicalOf", got, ok, want)
	}
}

// twinsUpToMost are the primes up to MaxNumber with a twin, of which the last one has it just up to MaxNumber + 1.
func twinsUpToMost() []int {
	return []int{3, 5, 11, 17, 29, 41, 59, 71, 101, 107, 137, 149, 179, 191, 197, 227, 239, 269, 281, 311, 347, 419, 431, 461, 521, 569, 599}
}

func TestTwinsUpTo(t *testing.T) {
	for _, most := range []int{0, 1, 2, 3, 4, 5, 6, 7, 10, 11, 12, 13, 30, 568, 569, 570, 571, 598, 599, impl.MaxNumber} {
		got, ok := impl.TwinsUpTo(most)
		wantValue(t, "TwinsUpTo", got, ok, cutAt(twinsUpToMost(), most))
	}
	for _, most := range []int{-1, impl.MaxNumber + 1} {
		got, ok := impl.TwinsUpTo(most)
		wantFail(t, "TwinsUpTo beyond", got, ok)
	}
}

// TestTwoPrimes has 7426, whose first prime is the greatest one of all even numbers up to MaxCounted.
func TestTwoPrimes(t *testing.T) {
	for _, c := range [][3]int{
		{4, 2, 1}, {5, 2, 1}, {6, 3, 1}, {7, 2, 1}, {8, 3, 1}, {9, 2, 1}, {10, 3, 2}, {14, 3, 2}, {15, 2, 1}, {26, 3, 3}, {30, 7, 3}, {68, 7, 2}, {98, 19, 3}, {100, 3, 6}, {128, 19, 3}, {992, 73, 13},
		{5566, 3, 75}, {7426, 173, 80}, {9975, 2, 1}, {9998, 31, 99}, {impl.MaxCounted, 59, 127},
	} {
		p, q, ok := impl.FirstTwoPrimes(c[0])
		wantValue(t, "FirstTwoPrimes", [2]int{p, q}, ok, [2]int{c[1], c[0] - c[1]})
		count, ok := impl.CountTwoPrimes(c[0])
		wantValue(t, "CountTwoPrimes", count, ok, c[2])
	}
	for _, n := range []int{11, 17, 23, 27, 29, 35, 37, 503, 9997, 9999} {
		p, q, ok := impl.FirstTwoPrimes(n)
		wantFail(t, "FirstTwoPrimes of no sum", [2]int{p, q}, ok)
		count, ok := impl.CountTwoPrimes(n)
		wantValue(t, "CountTwoPrimes of no sum", count, ok, 0)
	}
	for _, n := range []int{-4, -1, 0, 1, 2, 3, impl.MaxCounted + 1, impl.MaxCounted + 2, 10009} {
		p, q, ok := impl.FirstTwoPrimes(n)
		wantFail(t, "FirstTwoPrimes beyond", [2]int{p, q}, ok)
		count, ok := impl.CountTwoPrimes(n)
		wantFail(t, "CountTwoPrimes beyond", count, ok)
	}
}

func TestSmoothUpTo(t *testing.T) {
	all := upTo(1, impl.MaxNumber)
	for _, c := range []struct {
		most, bound int
		want        []int
	}{
		{10, 3, []int{1, 2, 3, 4, 6, 8, 9}}, {10, 4, []int{1, 2, 3, 4, 6, 8, 9}}, {10, 5, []int{1, 2, 3, 4, 5, 6, 8, 9, 10}}, {9, 3, []int{1, 2, 3, 4, 6, 8, 9}}, {8, 3, []int{1, 2, 3, 4, 6, 8}},
		{0, 1, nil}, {0, 3, nil}, {0, impl.MaxNumber, nil}, {1, 1, []int{1}}, {1, impl.MaxNumber, []int{1}}, {2, 1, []int{1}}, {2, 2, []int{1, 2}}, {impl.MaxNumber, 1, []int{1}},
		{impl.MaxNumber, 2, []int{1, 2, 4, 8, 16, 32, 64, 128, 256, 512}}, {30, 30, upTo(1, 30)}, {30, 28, append(upTo(1, 28), 30)},
		{impl.MaxNumber, impl.MaxNumber, all}, {impl.MaxNumber, 599, all}, {impl.MaxNumber, 598, append(upTo(1, 598), 600)},
	} {
		got, ok := impl.SmoothUpTo(c.most, c.bound)
		wantValue(t, "SmoothUpTo", got, ok, c.want)
	}
	for _, c := range [][2]int{{10, 0}, {10, -1}, {10, impl.MaxNumber + 1}, {-1, 3}, {impl.MaxNumber + 1, 3}, {0, 0}, {-1, 0}, {0, impl.MaxNumber + 1}, {impl.MaxNumber + 1, impl.MaxNumber + 1}} {
		got, ok := impl.SmoothUpTo(c[0], c[1])
		wantFail(t, "SmoothUpTo beyond", got, ok)
	}
}

func TestIsSmooth(t *testing.T) {
	for _, c := range []struct {
		n, bound int
		want     bool
	}{
		{1, 1, true}, {1, 2, true}, {1, math.MaxInt, true}, {2, 1, false}, {2, 2, true}, {3, 2, false}, {3, 3, true}, {4, 2, true}, {6, 2, false}, {6, 3, true}, {7, 6, false}, {7, 7, true}, {360, 4, false}, {360, 5, true},
		{impl.MaxFactored, 1, false}, {impl.MaxFactored, 4, false}, {impl.MaxFactored, 5, true}, {impl.MaxFactored, impl.MaxNumber + 1, true}, {999999937, 999999936, false}, {999999937, 999999937, true},
		{999999937, impl.MaxFactored + 1, true}, {999999937, math.MaxInt, true}, {31607 * 31607, 31606, false}, {31607 * 31607, 31607, true}, {31607 * 31627, 31607, false}, {31607 * 31627, 31627, true},
		{999999986, 499999992, false}, {999999986, 499999993, true}, {536870912, 2, true}, {999999999, 1 << 40, true},
	} {
		got, ok := impl.IsSmooth(c.n, c.bound)
		wantValue(t, "IsSmooth", got, ok, c.want)
	}
	for _, c := range [][2]int{{1, 0}, {1, -1}, {360, 0}, {360, -5}, {360, math.MinInt}, {0, 1}, {0, 0}, {-1, 3}, {0, math.MaxInt}, {impl.MaxFactored + 1, math.MaxInt}, {impl.MaxFactored, 0}} {
		got, ok := impl.IsSmooth(c[0], c[1])
		wantFail(t, "IsSmooth beyond", got, ok)
	}
}

func TestRulesOfPrimes(t *testing.T) {
	var want []impl.Rule
	for k := range impl.MaxFirst + 1 {
		if k > 0 {
			want = append(want, impl.Rule{Every: firstTwelve()[k-1], Rest: 0})
		}
		got, ok := impl.RulesOfPrimes(k)
		wantValue(t, "RulesOfPrimes", got, ok, want)
	}
	for _, k := range []int{-1, impl.MaxFirst + 1, 25} {
		got, ok := impl.RulesOfPrimes(k)
		wantFail(t, "RulesOfPrimes beyond", got, ok)
	}
}

func TestCrossersUpTo(t *testing.T) {
	for most, count := range map[int]int{0: 0, 1: 0, 2: 0, 3: 0, 4: 1, 8: 1, 9: 2, 10: 2, 24: 2, 25: 3, 48: 3, 49: 4, 120: 4, 121: 5, 360: 7, 361: 8, 528: 8, 529: 9, 599: 9, impl.MaxNumber: 9} {
		got, ok := impl.CrossersUpTo(most)
		wantValue(t, "CrossersUpTo", got, ok, firstTwelve()[:count])
	}
	for _, most := range []int{-1, impl.MaxNumber + 1} {
		got, ok := impl.CrossersUpTo(most)
		wantFail(t, "CrossersUpTo beyond", got, ok)
	}
}

// TestExampleOfPrimes has what the document's example says.
func TestExampleOfPrimes(t *testing.T) {
	primes, ok := impl.CountPrimes(30)
	wantValue(t, "CountPrimes", primes, ok, 10)
	without, ok := impl.CountWithout(30, 3)
	wantValue(t, "CountWithout", without, ok, 8)
	list, fine := impl.RulesOfPrimes(3)
	left, ok := impl.LeftUpTo(list, 30)
	wantValue(t, "LeftUpTo by RulesOfPrimes", left, fine && ok, []int{1, 7, 11, 13, 17, 19, 23, 29})
	factors, ok := impl.FactorsOf(360)
	wantValue(t, "FactorsOf", factors, ok, [][]int{{2, 3}, {3, 2}, {5, 1}})
	radical, ok := impl.RadicalOf(360)
	wantValue(t, "RadicalOf", radical, ok, 30)
	p, q, ok := impl.FirstTwoPrimes(30)
	wantValue(t, "FirstTwoPrimes", [2]int{p, q}, ok, [2]int{7, 23})
	count, ok := impl.CountTwoPrimes(30)
	wantValue(t, "CountTwoPrimes", count, ok, 3)
	smooth, ok := impl.SmoothUpTo(10, 3)
	wantValue(t, "SmoothUpTo", smooth, ok, []int{1, 2, 3, 4, 6, 8, 9})
}
