package tests

// Promise 3 for many numbers: each function does what its description says in the plainest words, and functions agree with each other.

import (
	"math/rand"
	"slices"
	"testing"

	"loop.example/g01235/impl"
)

// isPlainPrime counts, for small numbers, what divides n.
func isPlainPrime(n int) bool {
	divisors := 0
	for d := 1; d <= n; d++ {
		if n%d == 0 {
			divisors++
		}
	}
	return divisors == 2
}

// primeTable tells of each number up to most whether it is prime, by multiples of all numbers.
func primeTable(most int) []bool {
	table := make([]bool, most+1)
	for n := 2; n <= most; n++ {
		table[n] = true
	}
	for d := 2; d <= most; d++ {
		for n := 2 * d; n <= most; n += d {
			table[n] = false
		}
	}
	return table
}

// primesIn returns the numbers in low..high that the table tells.
func primesIn(table []bool, low int, high int) []int {
	return slices.DeleteFunc(upTo(low, high), func(n int) bool { return !table[n] })
}

// someNumbers returns count numbers in low..high, the same ones for each run.
func someNumbers(count int, low int, high int, seed int64) []int {
	random := rand.New(rand.NewSource(seed))
	numbers := []int{low, high}
	for len(numbers) < count {
		numbers = append(numbers, low+random.Intn(high-low+1))
	}
	return numbers
}

func TestPrimeTableIsPlain(t *testing.T) {
	for n, prime := range primeTable(600) {
		if prime != isPlainPrime(n) {
			t.Error("the test has a wrong table", n)
		}
	}
}

func TestPrimesUpToMillion(t *testing.T) {
	table := primeTable(1001000)
	for n, want := range table {
		if n > 30000 && n < 990000 && n%7 != 1 {
			continue
		}
		got, ok := impl.IsPrime(n)
		if got != want || !ok {
			t.Fatal("IsPrime", n, got, ok)
		}
	}
	next := 0
	for n := 1000000; n >= 0; n-- {
		if n == 1000000 || table[n+1] {
			next = n + 1 + slices.Index(table[n+1:], true)
		}
		if n > 30000 && n < 990000 && !table[n] && !table[n+1] {
			continue
		}
		got, ok := impl.NextPrime(n)
		if got != next || !ok {
			t.Fatal("NextPrime", n, got, ok)
		}
	}
}

func TestPrimesBetweenAgree(t *testing.T) {
	table := primeTable(40000)
	for low := range 60 {
		for high := range 140 {
			got, ok := impl.PrimesBetween(low, high)
			wantValue(t, "PrimesBetween", got, ok, primesIn(table, low, high))
		}
	}
	for _, low := range someNumbers(60, 0, 38000, 31) {
		for _, high := range []int{low, low + 1, low + 30, low + 1999, low + 2000} {
			got, ok := impl.PrimesBetween(low, high)
			wantValue(t, "PrimesBetween", got, ok, primesIn(table, low, high))
		}
		got, ok := impl.PrimesBetween(low, low+2001)
		wantFail(t, "PrimesBetween beyond", got, ok)
	}
}

// TestGreatPrimesAgree compares the list with each number that it may have.
func TestGreatPrimesAgree(t *testing.T) {
	for _, low := range append(someNumbers(6, 100000, impl.MaxFactored-2000, 32), 31607*31607-1000) {
		high := low + 2000
		primes := slices.DeleteFunc(upTo(low, high), func(n int) bool {
			prime, ok := impl.IsPrime(n)
			least, fine := impl.LeastFactor(n)
			if !ok || !fine || prime != (least == n) || n%least != 0 {
				t.Fatal("IsPrime and LeastFactor disagree", n, prime, least)
			}
			return !prime
		})
		got, ok := impl.PrimesBetween(low, high)
		wantValue(t, "PrimesBetween", got, ok, primes)
	}
}

func TestCountsAgreeWithLists(t *testing.T) {
	count := 0
	for low := 0; low <= impl.MaxCounted; low += 2000 {
		primes, ok := impl.PrimesBetween(low, low+1999)
		for n := low; n < low+2000 && n <= impl.MaxCounted; n++ {
			if slices.Contains(primes, n) {
				count++
			}
			got, fine := impl.CountPrimes(n)
			wantValue(t, "CountPrimes", got, ok && fine, count)
		}
	}
	for n := range 2001 {
		primes, ok := impl.PrimesBetween(0, n)
		got, fine := impl.CountPrimes(n)
		wantValue(t, "CountPrimes", got, ok && fine, len(primes))
	}
}

func TestRanksOfPrimes(t *testing.T) {
	last := 0
	for rank := range 1229 {
		p, ok := impl.PrimeOfRank(rank)
		next, fine := impl.NextPrime(last)
		wantValue(t, "PrimeOfRank", p, ok && fine, next)
		count, ok := impl.CountPrimes(p)
		wantValue(t, "CountPrimes up to a prime", count, ok, rank+1)
		count, ok = impl.CountPrimes(p - 1)
		wantValue(t, "CountPrimes before a prime", count, ok, rank)
		last = p
	}
}

func TestNextPrimeAgrees(t *testing.T) {
	for _, n := range append(someNumbers(300, 0, 1000000, 33), 113, 492113, 370261) {
		primes, ok := impl.PrimesBetween(n+1, n+2001)
		next, fine := impl.NextPrime(n)
		wantValue(t, "NextPrime", next, ok && fine, primes[0])
	}
}

// countWithout counts on foot, one by one, what none of the primes divides.
func countWithout(n int, primes []int) int {
	count := 0
	for i := 1; i <= n; i++ {
		if !slices.ContainsFunc(primes, func(p int) bool { return i%p == 0 }) {
			count++
		}
	}
	return count
}

func TestCountWithoutByRecursion(t *testing.T) {
	numbers := slices.Concat(upTo(0, 130), someNumbers(60, 0, impl.MaxCounted, 34))
	for _, n := range numbers {
		for k := range impl.MaxFirst + 1 {
			got, ok := impl.CountWithout(n, k)
			wantValue(t, "CountWithout", got, ok, countWithout(n, firstTwelve()[:k]))
			if k == 0 {
				continue
			}
			p, ranked := impl.PrimeOfRank(k - 1)
			before, ok := impl.CountWithout(n, k-1)
			multiples, fine := impl.CountWithout(n/p, k-1)
			wantValue(t, "CountWithout", got, ranked && ok && fine, before-multiples)
		}
	}
}

// TestCountWithoutByRules counts with the rules of the primes what is left, and lists it.
func TestCountWithoutByRules(t *testing.T) {
	for k := range impl.MaxFirst + 1 {
		list, made := impl.RulesOfPrimes(k)
		for most := range impl.MaxNumber + 1 {
			left, ok := impl.CountLeft(list, most)
			got, fine := impl.CountWithout(most, k)
			wantValue(t, "CountWithout", got, made && ok && fine, left)
		}
		for n := range impl.MaxNumber + 1 {
			left, ok := impl.IsLeft(list, n)
			divided := slices.ContainsFunc(firstTwelve()[:k], func(p int) bool { return n%p == 0 })
			wantValue(t, "IsLeft by RulesOfPrimes", left, ok, !divided)
		}
	}
}

// TestCountsByRecursion counts primes with CountWithout: of 2..n, n less than 41 times 41, just primes are no multiples of the first twelve, and these twelve come to them.
func TestCountsByRecursion(t *testing.T) {
	for n := 37; n < 41*41; n++ {
		without, ok := impl.CountWithout(n, impl.MaxFirst)
		count, fine := impl.CountPrimes(n)
		wantValue(t, "CountPrimes", count, ok && fine, without-1+impl.MaxFirst)
	}
}

// wantFactors checks that factors are those of n, and that all functions agree about them.
func wantFactors(t *testing.T, n int) {
	t.Helper()
	factors, ok := impl.FactorsOf(n)
	if !ok {
		t.Fatal("no factors", n)
	}
	product, radical, before := 1, 1, 0
	for _, f := range factors {
		if len(f) != 2 || f[0] <= before || f[1] < 1 {
			t.Fatal("wrong factors", n, factors)
		}
		prime, ok := impl.IsPrime(f[0])
		wantValue(t, "IsPrime of a factor", prime, ok, true)
		for range f[1] {
			product *= f[0]
		}
		radical *= f[0]
		before = f[0]
	}
	if product != n {
		t.Fatal("factors of another number", n, factors)
	}
	back, ok := impl.NumberOfFactors(factors)
	wantValue(t, "NumberOfFactors", back, ok, n)
	got, ok := impl.RadicalOf(n)
	wantValue(t, "RadicalOf", got, ok, radical)
	if n > 1 {
		least, ok := impl.LeastFactor(n)
		wantValue(t, "LeastFactor", least, ok, factors[0][0])
	}
	wantSmooth(t, n, before)
}

// wantSmooth checks that n is smooth just from a bound on: its greatest prime, or 1 for 1.
func wantSmooth(t *testing.T, n int, greatest int) {
	t.Helper()
	for _, bound := range []int{1, 2, 3, 5, 7, 30, greatest - 1, greatest, greatest + 1} {
		if bound < 1 {
			continue
		}
		smooth, ok := impl.IsSmooth(n, bound)
		wantValue(t, "IsSmooth", smooth, ok, bound >= greatest)
	}
}

func TestFactorsAgree(t *testing.T) {
	for n := 1; n <= 6000; n++ {
		wantFactors(t, n)
	}
	for _, n := range append(someNumbers(400, 1, impl.MaxFactored, 35), upTo(impl.MaxFactored-60, impl.MaxFactored)...) {
		wantFactors(t, n)
	}
}

// TestFactorsBackwards goes from many factors to their number and back.
func TestFactorsBackwards(t *testing.T) {
	random := rand.New(rand.NewSource(36))
	for range 3000 {
		primes := firstTwelve()
		if random.Intn(3) == 0 {
			primes = append(primes, 101, 31607, 31627, 999983, 999999937)
		}
		var factors [][]int
		number := 1
		for _, p := range primes {
			if random.Intn(3) > 0 {
				continue
			}
			exponent := 1 + random.Intn(3)
			factors = append(factors, []int{p, exponent})
			for range exponent {
				number = min(number*p, impl.MaxFactored+1)
			}
		}
		got, ok := impl.NumberOfFactors(factors)
		if number > impl.MaxFactored {
			wantFail(t, "NumberOfFactors, too great", got, ok)
			continue
		}
		wantValue(t, "NumberOfFactors", got, ok, number)
		back, ok := impl.FactorsOf(number)
		wantValue(t, "FactorsOf", back, ok, factors)
	}
}

// TestFactorsInOrder asks often for many factors, so that an order that is not kept shows.
func TestFactorsInOrder(t *testing.T) {
	for range 200 {
		factors, ok := impl.FactorsOf(223092870)
		wantValue(t, "FactorsOf", factors, ok, manyFactors(9))
	}
}

func TestTwinsAgree(t *testing.T) {
	for most := range impl.MaxNumber + 1 {
		want := slices.DeleteFunc(upTo(1, most), func(n int) bool {
			one, ok := impl.IsPrime(n)
			other, fine := impl.IsPrime(n + 2)
			return !ok || !fine || !one || !other
		})
		got, ok := impl.TwinsUpTo(most)
		wantValue(t, "TwinsUpTo", got, ok, want)
	}
}

func TestTwoPrimesAgree(t *testing.T) {
	var primes []bool
	for n := range impl.MaxCounted + 1 {
		prime, ok := impl.IsPrime(n)
		primes = append(primes, prime && ok)
	}
	for n := 4; n <= impl.MaxCounted; n++ {
		first, count := 0, 0
		for p := n / 2; p >= 2; p-- {
			if primes[p] && primes[n-p] {
				first = p
				count++
			}
		}
		p, q, ok := impl.FirstTwoPrimes(n)
		if count == 0 {
			wantFail(t, "FirstTwoPrimes of no sum", [2]int{p, q}, ok)
		} else {
			wantValue(t, "FirstTwoPrimes", [2]int{p, q}, ok, [2]int{first, n - first})
		}
		got, ok := impl.CountTwoPrimes(n)
		wantValue(t, "CountTwoPrimes", got, ok, count)
	}
}

func TestSmoothAgree(t *testing.T) {
	for bound := 1; bound <= impl.MaxNumber; bound++ {
		var smooth []int
		for n := 1; n <= impl.MaxNumber; n++ {
			is, ok := impl.IsSmooth(n, bound)
			if !ok {
				t.Fatal("IsSmooth failed", n, bound)
			}
			if is {
				smooth = append(smooth, n)
			}
		}
		for _, most := range []int{0, 1, bound - 1, bound, min(bound+1, impl.MaxNumber), 347, impl.MaxNumber} {
			got, ok := impl.SmoothUpTo(most, bound)
			wantValue(t, "SmoothUpTo", got, ok, cutAt(smooth, most))
		}
	}
}

// TestCrossersCross crosses out, of 2..most, the multiples of the crossers but for themselves: the primes are left.
func TestCrossersCross(t *testing.T) {
	for most := range impl.MaxNumber + 1 {
		crossers, ok := impl.CrossersUpTo(most)
		left := slices.DeleteFunc(upTo(2, most), func(n int) bool {
			return slices.ContainsFunc(crossers, func(p int) bool { return n%p == 0 && n != p })
		})
		primes, fine := impl.PrimesBetween(0, most)
		wantValue(t, "CrossersUpTo", left, ok && fine, primes)
		wantValue(t, "CrossersUpTo", crossers, ok, slices.DeleteFunc(primes, func(p int) bool { return p*p > most }))
	}
}
