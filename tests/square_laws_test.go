package tests

// Promise 6 for all numbers that may be asked for: each function does what its description says in the plainest words, and functions agree with each other.

import (
	"slices"
	"testing"

	"loop.example/g01235/impl"
)

// plainPart tries all numbers whose squares are at most n.
func plainPart(n int) int {
	part := 1
	for d := 1; d*d <= n; d++ {
		if n%(d*d) == 0 {
			part = d
		}
	}
	return part
}

// partTable tells the square part of each number up to most: that of the last one of the squares, which grow, of which it is a multiple.
func partTable(most int) []int {
	table := make([]int, most+1)
	for d := 1; d*d <= most; d++ {
		for n := d * d; n <= most; n += d * d {
			table[n] = d
		}
	}
	return table
}

// primesOfAll tells of each number up to most the product of the primes that divide it, and how many they are.
func primesOfAll(most int) ([]int, []int) {
	kernels, counts := make([]int, most+1), make([]int, most+1)
	for n := range kernels {
		kernels[n] = 1
	}
	for p, isPrime := range primeTable(most) {
		for n := p; isPrime && n <= most; n += p {
			kernels[n] *= p
			counts[n]++
		}
	}
	return kernels, counts
}

// signTable tells the signs, of the square parts and of how many primes there are.
func signTable(most int) []int {
	signs := make([]int, most+1)
	parts := partTable(most)
	_, counts := primesOfAll(most)
	for n := 1; n <= most; n++ {
		if parts[n] == 1 {
			signs[n] = 1 - counts[n]%2*2
		}
	}
	return signs
}

func TestPartTableIsPlain(t *testing.T) {
	for n, part := range partTable(2000) {
		if n > 0 && part != plainPart(n) {
			t.Error("the test has a wrong table", n)
		}
	}
}

func TestAllSquareParts(t *testing.T) {
	kernels, _ := primesOfAll(impl.MaxAsked)
	signs := signTable(impl.MaxAsked)
	for n, want := range partTable(impl.MaxAsked) {
		if n == 0 {
			continue
		}
		part, ok := impl.SquarePart(n)
		kernel, kernelOK := impl.KernelOf(n)
		sign, signOK := impl.FreeSign(n)
		free, freeOK := impl.IsSquareFree(n)
		if !ok || !kernelOK || !signOK || !freeOK {
			t.Fatal("a call fails", n)
		}
		if part != want || kernel != kernels[n] || sign != signs[n] || free != (want == 1) {
			t.Fatal("a number is told wrongly", n, part, kernel, sign, free)
		}
	}
}

// TestSquareFreeIsToldAlike has IsSquareFree with SquarePart, KernelOf and FreeSign, and what is left of n without its square part.
func TestSquareFreeIsToldAlike(t *testing.T) {
	for n := 1; n <= impl.MaxAsked; n++ {
		free, _ := impl.IsSquareFree(n)
		part, ok := impl.SquarePart(n)
		kernel, _ := impl.KernelOf(n)
		sign, _ := impl.FreeSign(n)
		if !ok || free != (part == 1) || free != (kernel == n) || free != (sign != 0) {
			t.Fatal("IsSquareFree disagrees", n, free, part, kernel, sign)
		}
		rest, _ := impl.IsSquareFree(n / (part * part))
		if n%(part*part) != 0 || !rest {
			t.Fatal("SquarePart is not the greatest number whose square divides n", n, part)
		}
	}
}

// TestKernelsAndSignsByFactors has KernelOf with RadicalOf, FreeSign with FactorsOf, and the square part by exponents.
func TestKernelsAndSignsByFactors(t *testing.T) {
	for n := 1; n <= impl.MaxAsked; n++ {
		factors, ok := impl.FactorsOf(n)
		radical, fine := impl.RadicalOf(n)
		want, part := 1, 1
		for _, f := range factors {
			if f[1] > 1 {
				want = 0
			}
			want = -want
			for range f[1] / 2 {
				part *= f[0]
			}
		}
		kernel, kernelOK := impl.KernelOf(n)
		sign, signOK := impl.FreeSign(n)
		got, partOK := impl.SquarePart(n)
		if !ok || !fine || !kernelOK || !signOK || !partOK || kernel != radical || sign != want || got != part {
			t.Fatal("KernelOf, FreeSign or SquarePart disagrees with the factors", n, kernel, sign, got)
		}
	}
}

func TestSumsOfSignsAgree(t *testing.T) {
	sum := 0
	for n := 1; n <= impl.MaxNumber; n++ {
		sign, ok := impl.FreeSign(n)
		sum += sign
		got, fine := impl.SumOfSigns(n)
		wantValue(t, of("SumOfSigns", n), got, ok && fine, sum)
	}
}

// freeOnes returns the square-free numbers in 1..most.
func freeOnes(most int) []int {
	parts := partTable(most)
	return slices.DeleteFunc(upTo(1, most), func(n int) bool { return parts[n] != 1 })
}

func TestSquareFreeLists(t *testing.T) {
	all := freeOnes(impl.MaxNumber)
	for most := range impl.MaxNumber + 1 {
		got, ok := impl.SquareFreeUpTo(most)
		wantValue(t, of("SquareFreeUpTo", most), got, ok, cutAt(all, most))
		if most > 0 {
			count, fine := impl.CountSquareFree(most)
			wantValue(t, of("CountSquareFree", most), count, fine, len(got))
		}
	}
}

// TestCountsBySignsAgree counts IsSquareFree, and by signs anew.
func TestCountsBySignsAgree(t *testing.T) {
	signs := signTable(316)
	count := 0
	for n := 1; n <= impl.MaxAsked; n++ {
		if free, _ := impl.IsSquareFree(n); free {
			count++
		}
		bySigns := 0
		for d := 1; d*d <= n; d++ {
			bySigns += signs[d] * (n / (d * d))
		}
		got, ok := impl.CountSquareFree(n)
		if got != count || got != bySigns || !ok {
			t.Fatal("CountSquareFree", n, got, count, bySigns)
		}
	}
}

// TestRanksOfSquareFree has SquareFreeOfRank with SquareFreeUpTo, CountSquareFree and NextSquareFree.
func TestRanksOfSquareFree(t *testing.T) {
	all, ok := impl.SquareFreeUpTo(impl.MaxNumber)
	if !ok || len(all) <= 301 {
		t.Fatal("SquareFreeUpTo has too few numbers", len(all))
	}
	for rank := range 301 {
		n, ok := impl.SquareFreeOfRank(rank)
		wantValue(t, of("SquareFreeOfRank", rank), n, ok, all[rank])
		count, ok := impl.CountSquareFree(n)
		wantValue(t, of("CountSquareFree", n), count, ok, rank+1)
		next, ok := impl.NextSquareFree(n)
		wantValue(t, of("NextSquareFree", n), next, ok, all[rank+1])
		if further, ok := impl.SquareFreeOfRank(rank + 1); rank < 300 {
			wantValue(t, of("SquareFreeOfRank", rank+1), further, ok, next)
		}
	}
}

func TestAllNextSquareFree(t *testing.T) {
	parts := partTable(impl.MaxAsked + 20)
	next := 0
	for n := impl.MaxAsked + 20; n >= 1; n-- {
		if n <= impl.MaxAsked {
			got, ok := impl.NextSquareFree(n)
			if got != next || !ok {
				t.Fatal("NextSquareFree", n, got, ok)
			}
		}
		if parts[n] == 1 {
			next = n
		}
	}
}

// TestNextSquareFreeCounts goes from each square-free number to the next one: the count is one more with each.
func TestNextSquareFreeCounts(t *testing.T) {
	n, want := 1, 1
	for n <= impl.MaxAsked {
		count, ok := impl.CountSquareFree(n)
		next, fine := impl.NextSquareFree(n)
		if count != want || next <= n || !ok || !fine {
			t.Fatal("CountSquareFree and NextSquareFree disagree", n, count, want, next)
		}
		n, want = next, want+1
	}
	if want != 60795 {
		t.Error("there are not as many square-free numbers as there should be:", want)
	}
}

// TestRunsAreBetweenSquareFree has LongestSquareful with the numbers that SquareFreeUpTo leaves out.
func TestRunsAreBetweenSquareFree(t *testing.T) {
	for most := range impl.MaxNumber + 1 {
		free, ok := impl.SquareFreeUpTo(most)
		wantLongest, wantFirst, before := 0, 0, 0
		for _, n := range append(free, most+1) {
			if between := n - before - 1; between > wantLongest {
				wantLongest, wantFirst = between, before+1
			}
			before = n
		}
		longest, first, fine := impl.LongestSquareful(most)
		wantValue(t, of("LongestSquareful", most), [2]int{longest, first}, ok && fine, [2]int{wantLongest, wantFirst})
	}
}

// asTwoTable tells of each number in 0..most in how many ways it is a sum of two ordered and signed squares, by all pairs.
func asTwoTable(most int) []int {
	table := make([]int, most+1)
	root := 0
	for (root+1)*(root+1) <= most {
		root++
	}
	for x := -root; x <= root; x++ {
		for y := -root; y <= root; y++ {
			if n := x*x + y*y; n <= most {
				table[n]++
			}
		}
	}
	return table
}

// asThreeTable tells of each number in 0..most whether it is a sum of three squares.
func asThreeTable(most int) []bool {
	table := make([]bool, most+1)
	two := asTwoTable(most)
	for a := 0; a*a <= most; a++ {
		for rest := 0; a*a+rest <= most; rest++ {
			if two[rest] > 0 {
				table[a*a+rest] = true
			}
		}
	}
	return table
}

// plainSums tries all pairs, in order.
func plainSums(n int) [][]int {
	var sums [][]int
	for a := 0; a*a <= n; a++ {
		for b := a; a*a+b*b <= n; b++ {
			if a*a+b*b == n {
				sums = append(sums, []int{a, b})
			}
		}
	}
	return sums
}

func TestTwoSquaresArePlain(t *testing.T) {
	for _, n := range slices.Concat(upTo(1, 4000), someNumbers(300, 4001, impl.MaxAsked, 81), []int{32045, 64090, 71825, 93925}) {
		got, ok := impl.TwoSquares(n)
		wantValue(t, of("TwoSquares", n), got, ok, plainSums(n))
	}
}

// waysOf tells in how many ways the squares of a list, with all signs and in each order, are the sum that they are.
func waysOf(numbers []int) int {
	signed := 1
	for _, number := range numbers {
		if number != 0 {
			signed *= 2
		}
	}
	return signed * len(ordersOf(numbers))
}

// ordersOf returns the different orders of a list.
func ordersOf(numbers []int) [][]int {
	if len(numbers) == 0 {
		return [][]int{nil}
	}
	var orders [][]int
	for k, first := range numbers {
		if slices.Contains(numbers[:k], first) {
			continue
		}
		for _, rest := range ordersOf(slices.Concat(numbers[:k], numbers[k+1:])) {
			orders = append(orders, append([]int{first}, rest...))
		}
	}
	return orders
}

// TestSumsOfTwoAgree has TwoSquares with CountAsTwo and IsSumOfTwo, and all of them with all pairs.
func TestSumsOfTwoAgree(t *testing.T) {
	for n, want := range asTwoTable(impl.MaxAsked) {
		if n == 0 {
			continue
		}
		sums, ok := impl.TwoSquares(n)
		ways := 0
		for _, s := range sums {
			if len(s) != 2 || s[0] < 0 || s[0] > s[1] || s[0]*s[0]+s[1]*s[1] != n {
				t.Fatal("TwoSquares has a list that is no sum", n, sums)
			}
			ways += waysOf(s)
		}
		count, fine := impl.CountAsTwo(n)
		is, told := impl.IsSumOfTwo(n)
		if !ok || !fine || !told || ways != want || count != want || is != (want > 0) || !slices.IsSortedFunc(sums, slices.Compare) {
			t.Fatal("TwoSquares, CountAsTwo and IsSumOfTwo disagree", n, sums, count, is)
		}
	}
}

// TestSumsOfTwoByFactors has CountAsTwo by all divisors, and IsSumOfTwo by the factors of chapter 3.
func TestSumsOfTwoByFactors(t *testing.T) {
	for _, n := range append(upTo(1, 1200), someNumbers(300, 1201, impl.MaxAsked, 82)...) {
		more := 0
		for d := 1; d <= n; d += 4 {
			if n%d == 0 {
				more++
			}
			if n%(d+2) == 0 {
				more--
			}
		}
		count, ok := impl.CountAsTwo(n)
		wantValue(t, of("CountAsTwo", n), count, ok, 4*more)
		factors, fine := impl.FactorsOf(n)
		isOdd := func(f []int) bool { return f[0]%4 == 3 && f[1]%2 == 1 }
		is, ok := impl.IsSumOfTwo(n)
		wantValue(t, of("IsSumOfTwo", n), is, ok && fine, !slices.ContainsFunc(factors, isOdd))
	}
}

func TestListsOfSumsOfTwo(t *testing.T) {
	isNone := func(n int) bool {
		is, ok := impl.IsSumOfTwo(n)
		return !is || !ok
	}
	all := slices.DeleteFunc(upTo(1, impl.MaxNumber), isNone)
	for most := range impl.MaxNumber + 1 {
		got, ok := impl.SumsOfTwoUpTo(most)
		wantValue(t, of("SumsOfTwoUpTo", most), got, ok, cutAt(all, most))
	}
}

func TestSumsOfThreeArePlain(t *testing.T) {
	for n, want := range asThreeTable(impl.MaxAsked) {
		if n == 0 {
			continue
		}
		got, ok := impl.IsSumOfThree(n)
		if got != want || !ok {
			t.Fatal("IsSumOfThree", n, got, ok)
		}
	}
}

// fourTable has for each number up to most all lists of four increasing or same numbers whose squares are that number together, in order.
func fourTable(most int) [][][]int {
	table := make([][][]int, most+1)
	for a := 0; a*a <= most; a++ {
		for b := a; a*a+b*b <= most; b++ {
			for c := b; a*a+b*b+c*c <= most; c++ {
				for d := c; a*a+b*b+c*c+d*d <= most; d++ {
					n := a*a + b*b + c*c + d*d
					table[n] = append(table[n], []int{a, b, c, d})
				}
			}
		}
	}
	return table
}

// TestFourSquaresArePlain has all numbers that FourSquares is told of, and IsSumOfThree with them.
func TestFourSquaresArePlain(t *testing.T) {
	ofFour := 0
	for n, all := range fourTable(5000) {
		if n == 0 {
			continue
		}
		got, ok := impl.FourSquares(n)
		wantValue(t, of("FourSquares", n), got, ok, all[0])
		isThree, fine := impl.IsSumOfThree(n)
		wantValue(t, of("IsSumOfThree", n), isThree, ok && fine, got[0] == 0)
		if !isThree {
			ofFour++
		}
	}
	if ofFour != 831 {
		t.Error("there are not as many numbers that need four squares as there should be:", ofFour)
	}
}

// TestWaysAsFourAreAll has CountAsFour with all lists, in all orders and with all signs.
func TestWaysAsFourAreAll(t *testing.T) {
	for n, all := range fourTable(1500) {
		if n == 0 {
			continue
		}
		want := 0
		for _, numbers := range all {
			want += waysOf(numbers)
		}
		got, ok := impl.CountAsFour(n)
		wantValue(t, of("CountAsFour", n), got, ok, want)
	}
}

// TestWaysAsFourAreTwiceTwo has CountAsFour with CountAsTwo of two numbers that are n together, of which one may be 0.
func TestWaysAsFourAreTwiceTwo(t *testing.T) {
	two := []int{1}
	for n := 1; n <= 6000; n++ {
		ways, ok := impl.CountAsTwo(n)
		two = append(two, ways)
		want := 0
		for k := range two {
			want += two[k] * two[n-k]
		}
		got, fine := impl.CountAsFour(n)
		wantValue(t, of("CountAsFour", n), got, ok && fine, want)
	}
}

// TestWaysAsFourByDivisors has numbers up to MaxAsked.
func TestWaysAsFourByDivisors(t *testing.T) {
	sums := make([]int, impl.MaxAsked+1)
	for d := 1; d <= impl.MaxAsked; d++ {
		for n := d; n <= impl.MaxAsked && d%4 != 0; n += d {
			sums[n] += d
		}
	}
	for n := 1; n <= impl.MaxAsked; n++ {
		got, ok := impl.CountAsFour(n)
		if got != 8*sums[n] || !ok {
			t.Fatal("CountAsFour", n, got, ok)
		}
	}
}

// TestCirclesAreSums has CountInCircle with the sum of CountAsTwo, and one for 0.
func TestCirclesAreSums(t *testing.T) {
	table := asTwoTable(impl.MaxAsked)
	sum, plain := 1, 1
	for n := 1; n <= impl.MaxAsked; n++ {
		ways, ok := impl.CountAsTwo(n)
		sum += ways
		plain += table[n]
		// The counts of most great numbers are left out, as each one takes a while.
		if n > 6000 && n < impl.MaxAsked-100 && n%97 != 0 {
			continue
		}
		got, fine := impl.CountInCircle(n)
		if got != sum || got != plain || !ok || !fine {
			t.Fatal("CountInCircle", n, got, sum, plain)
		}
	}
}
