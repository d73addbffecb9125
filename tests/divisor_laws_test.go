package tests

// Promise 7 for many numbers and tables: each function does what its description says in the plainest words, and functions agree with each other.

import (
	"math/rand"
	"slices"
	"testing"

	"loop.example/g01235/impl"
)

// plainDivisors tries all numbers up to n.
func plainDivisors(n int) []int {
	return slices.DeleteFunc(upTo(1, n), func(d int) bool { return n%d != 0 })
}

// haveNone reports whether two numbers have no common divisor but 1.
func haveNone(a int, b int) bool {
	for d := 2; d <= min(a, b); d++ {
		if a%d == 0 && b%d == 0 {
			return false
		}
	}
	return true
}

// dividedTables tell of each number up to most how many divisors it has, and their sum, by the multiples of each number.
func dividedTables(most int) ([]int, []int) {
	counts, sums := make([]int, most+1), make([]int, most+1)
	for d := 1; d <= most; d++ {
		for n := d; n <= most; n += d {
			counts[n]++
			sums[n] += d
		}
	}
	return counts, sums
}

// totientTable tells the totients, as those of all divisors of n are n together.
func totientTable(most int) []int {
	totients := upTo(0, most)
	for d := 1; d <= most; d++ {
		for n := 2 * d; n <= most; n += d {
			totients[n] -= totients[d]
		}
	}
	return totients
}

// manyDivided are the small numbers, some of the others, and the last ones.
func manyDivided() []int {
	return slices.Concat(upTo(1, 60000), someNumbers(20000, 60001, mostDivided, 91), upTo(mostDivided-300, mostDivided))
}

func TestTotientTableIsPlain(t *testing.T) {
	for n, totient := range totientTable(300) {
		none := slices.DeleteFunc(upTo(1, n), func(k int) bool { return !haveNone(k, n) })
		if totient != len(none) {
			t.Error("the test has a wrong table", n)
		}
	}
}

func TestDivisorsArePlain(t *testing.T) {
	for _, n := range slices.Concat(upTo(1, 3000), someNumbers(60, 3001, mostDivided, 92), []int{mostDivided - 1, mostDivided}) {
		got, ok := impl.DivisorsOf(n)
		wantValue(t, of("DivisorsOf", n), got, ok, plainDivisors(n))
	}
}

func TestAllNumbersOfDivisors(t *testing.T) {
	counts, sums := dividedTables(mostDivided)
	totients, signs := totientTable(mostDivided), signTable(mostDivided)
	for n := 1; n <= mostDivided; n++ {
		count, countOK := impl.CountDivisors(n)
		sum, sumOK := impl.SumDivisors(n)
		totient, totientOK := impl.TotientOf(n)
		sign, signOK := impl.MoebiusOf(n)
		if !countOK || !sumOK || !totientOK || !signOK {
			t.Fatal("a call fails", n)
		}
		if count != counts[n] || sum != sums[n] || totient != totients[n] || sign != signs[n] {
			t.Fatal("a number is told wrongly", n, count, sum, totient, sign)
		}
	}
}

// TestDivisorsAgree has CountDivisors, SumDivisors and SumStep with DivisorsOf.
func TestDivisorsAgree(t *testing.T) {
	for _, n := range manyDivided() {
		list, ok := impl.DivisorsOf(n)
		sum, before := 0, 0
		for k, d := range list {
			if d <= before || n%d != 0 || d*list[len(list)-1-k] != n {
				t.Fatal("DivisorsOf has a wrong number", n, list)
			}
			sum += d
			before = d
		}
		count, countOK := impl.CountDivisors(n)
		got, sumOK := impl.SumDivisors(n)
		step, stepOK := impl.SumStep(n)
		if !ok || !countOK || !sumOK || !stepOK || count != len(list) || got != sum || step != sum-n {
			t.Fatal("CountDivisors, SumDivisors or SumStep disagrees with DivisorsOf", n, list, count, got, step)
		}
	}
}

// TestDividedByFactors has all that is told of a number with its factors, and MoebiusOf with FreeSign.
func TestDividedByFactors(t *testing.T) {
	for _, n := range manyDivided() {
		factors, ok := impl.FactorsOf(n)
		want := divided{n, 1, 1, 1, 1}
		for _, f := range factors {
			sum, power := 1, 1
			for range f[1] {
				power *= f[0]
				sum += power
			}
			want.count *= f[1] + 1
			want.sum *= sum
			want.totient *= power - power/f[0]
			want.sign = -want.sign
			if f[1] > 1 {
				want.sign = 0
			}
		}
		count, _ := impl.CountDivisors(n)
		sum, _ := impl.SumDivisors(n)
		totient, _ := impl.TotientOf(n)
		sign, _ := impl.MoebiusOf(n)
		if got := (divided{n, count, sum, totient, sign}); got != want || !ok {
			t.Fatal("a number is not told as by its factors", got, want)
		}
		free, ok := impl.FreeSign(n)
		if n <= impl.MaxAsked && (free != sign || !ok) {
			t.Fatal("MoebiusOf and FreeSign disagree", n, sign, free)
		}
	}
}

func TestCoprimePairsArePlain(t *testing.T) {
	pairs := 0
	for n := 1; n <= impl.MaxNumber; n++ {
		for k := 1; k < n; k++ {
			if haveNone(k, n) {
				pairs += 2
			}
		}
		if n == 1 {
			pairs++
		}
		got, ok := impl.CoprimePairs(n)
		wantValue(t, of("CoprimePairs", n), got, ok, pairs)
	}
}

// TestTotientsArePairs has TotientOf with CoprimePairs.
func TestTotientsArePairs(t *testing.T) {
	sum := 0
	for n := 1; n <= impl.MaxNumber; n++ {
		totient, ok := impl.TotientOf(n)
		sum += totient
		got, fine := impl.CoprimePairs(n)
		wantValue(t, of("CoprimePairs", n), got, ok && fine, 2*sum-1)
	}
}

// tellers tell one number of the tables of each kind.
func tellers() []func(n int) (int, bool) {
	return []func(n int) (int, bool){
		func(n int) (int, bool) { return 1, true }, func(n int) (int, bool) { return n, true }, impl.CountDivisors, impl.SumDivisors, impl.TotientOf, impl.MoebiusOf, func(n int) (int, bool) { return 1 / n, true },
	}
}

func TestTablesTellNumbers(t *testing.T) {
	for kind, teller := range tellers() {
		var want []int
		for most := 1; most <= impl.MaxTable; most++ {
			number, told := teller(most)
			want = append(want, number)
			got, ok := impl.TableOf(kind, most)
			wantValue(t, of("TableOf", kind), got, ok && told, want)
		}
	}
}

// tableWith returns a table of so many random numbers of at most that size.
func tableWith(random *rand.Rand, count int, size int) []int {
	list := make([]int, count)
	for i := range list {
		if random.Intn(4) > 0 {
			list[i] = random.Intn(2*size+1) - size
		}
	}
	return list
}

// somePairs returns count pairs of tables of as many numbers, the same ones for each run: long and short ones, with small and with great numbers.
func somePairs(count int, seed int64) [][2][]int {
	random := rand.New(rand.NewSource(seed))
	sizes := []int{1, 3, 30, 150, 400, 1000, mostTabled}
	pairs := make([][2][]int, count)
	for i := range pairs {
		length := 1 + random.Intn(12)
		if i%2 == 0 {
			length = 1 + random.Intn(impl.MaxTable)
		}
		for side := range 2 {
			pairs[i][side] = tableWith(random, length, sizes[random.Intn(len(sizes))])
		}
	}
	return pairs
}

func isPlainTable(list []int) bool {
	return len(list) >= 1 && len(list) <= impl.MaxTable && slices.Max(list) <= mostTabled && slices.Min(list) >= -mostTabled
}

// plainOver sums over all divisors of each number.
func plainOver(a []int, b []int) []int {
	var list []int
	for n := 1; n <= len(a); n++ {
		sum := 0
		for _, d := range plainDivisors(n) {
			sum += a[d-1] * b[n/d-1]
		}
		list = append(list, sum)
	}
	return list
}

func TestProductsArePlain(t *testing.T) {
	tables := 0
	for _, pair := range somePairs(600, 93) {
		got, ok := impl.OverDivisors(pair[0], pair[1])
		back, fine := impl.OverDivisors(pair[1], pair[0])
		want := plainOver(pair[0], pair[1])
		if !isPlainTable(want) {
			wantFail(t, "OverDivisors", got, ok)
			wantFail(t, "OverDivisors, turned", back, fine)
			continue
		}
		tables++
		wantValue(t, "OverDivisors of "+wordsOf(pair[0])+" and "+wordsOf(pair[1]), got, ok, want)
		wantValue(t, "OverDivisors, turned", back, fine, want)
	}
	if tables < 200 || tables > 500 {
		t.Error("the test has too few products that are tables, or too few others:", tables)
	}
}

func TestUnitChangesNothing(t *testing.T) {
	for _, pair := range somePairs(200, 94) {
		unit := tableOf(t, impl.KindUnit, len(pair[0]))
		got, ok := impl.OverDivisors(pair[0], unit)
		wantValue(t, "OverDivisors with KindUnit", got, ok, pair[0])
		got, ok = impl.OverDivisors(unit, pair[0])
		wantValue(t, "OverDivisors of KindUnit", got, ok, pair[0])
	}
}

// TestProductsOfThree multiplies three tables in either way, where all products are tables.
func TestProductsOfThree(t *testing.T) {
	random := rand.New(rand.NewSource(95))
	compared := 0
	for range 300 {
		length := 1 + random.Intn(impl.MaxTable)
		a, b, c := tableWith(random, length, 9), tableWith(random, length, 20), tableWith(random, length, 30)
		ab, abOK := impl.OverDivisors(a, b)
		bc, bcOK := impl.OverDivisors(b, c)
		first, firstOK := impl.OverDivisors(ab, c)
		second, secondOK := impl.OverDivisors(a, bc)
		if !abOK || !bcOK || !firstOK {
			continue
		}
		compared++
		wantValue(t, "OverDivisors of three tables", second, secondOK, first)
	}
	if compared < 250 {
		t.Error("the test has too few products of three tables that are tables:", compared)
	}
}

// TestProductsOfThreeKinds has all kinds.
func TestProductsOfThreeKinds(t *testing.T) {
	for kind := range 343 {
		a, b, c := tableOf(t, kind%7, impl.MaxTable), tableOf(t, kind/7%7, impl.MaxTable), tableOf(t, kind/49, impl.MaxTable)
		ab, abOK := impl.OverDivisors(a, b)
		bc, bcOK := impl.OverDivisors(b, c)
		want, ok := impl.OverDivisors(ab, c)
		got, fine := impl.OverDivisors(a, bc)
		wantValue(t, "OverDivisors of three kinds", got, abOK && bcOK && ok && fine, want)
	}
}

// plainUndo finds one number of the table after the other, and returns nil where one is none that a table may have.
func plainUndo(a []int) []int {
	undo := []int{a[0]}
	for n := 2; n <= len(a); n++ {
		sum := 0
		for _, d := range plainDivisors(n)[1:] {
			sum += a[d-1] * undo[n/d-1]
		}
		undo = append(undo, -sum*a[0])
		if !isPlainTable(undo) {
			return nil
		}
	}
	return undo
}

func TestTablesAreUndone(t *testing.T) {
	tables := 0
	for i, pair := range somePairs(600, 96) {
		for _, first := range []int{1, -1} {
			a := pair[i%2]
			a[0] = first
			got, ok := impl.UndoTable(a)
			want := plainUndo(a)
			if want == nil {
				wantFail(t, "UndoTable", got, ok)
				continue
			}
			tables++
			wantValue(t, "UndoTable of "+wordsOf(a), got, ok, want)
			unit, ok := impl.OverDivisors(a, got)
			wantValue(t, "OverDivisors of a table and of that undone", unit, ok, unitOf(len(a)))
			back, ok := impl.UndoTable(got)
			wantValue(t, "UndoTable of a table that is undone", back, ok, a)
		}
	}
	if tables < 400 || tables > 1100 {
		t.Error("the test undoes too few tables, or has too few others:", tables)
	}
}

// TestUndoneGoesBack multiplies with a table, and then with that undone.
func TestUndoneGoesBack(t *testing.T) {
	random := rand.New(rand.NewSource(97))
	for range 200 {
		length := 1 + random.Intn(impl.MaxTable)
		a, b := tableWith(random, length, 500), tableWith(random, length, 1)
		b[0] = 1 - 2*random.Intn(2)
		undo, undoOK := impl.UndoTable(b)
		over, overOK := impl.OverDivisors(a, b)
		back, ok := impl.OverDivisors(over, undo)
		wantValue(t, "OverDivisors with a table and with that undone", back, ok && undoOK && overOK, a)
	}
}

func TestSumsAreProductsWithOne(t *testing.T) {
	tables := 0
	for _, pair := range somePairs(400, 98) {
		got, ok := impl.SumOverDivisors(pair[0])
		want, fine := impl.OverDivisors(pair[0], tableOf(t, impl.KindOne, len(pair[0])))
		if !fine {
			wantFail(t, "SumOverDivisors", got, ok)
			continue
		}
		tables++
		wantValue(t, "SumOverDivisors of "+wordsOf(pair[0]), got, ok, want)
		back, ok := impl.OverDivisors(got, tableOf(t, impl.KindSign, len(got)))
		wantValue(t, "OverDivisors of sums and KindSign", back, ok, pair[0])
	}
	if tables < 200 || tables > 390 {
		t.Error("the test has too few sums that are tables, or too few others:", tables)
	}
}

// TestSumsOfKinds has the kinds that are sums of kinds, and those that are products of others or undone.
func TestSumsOfKinds(t *testing.T) {
	for most := 1; most <= impl.MaxTable; most++ {
		for kind, want := range map[int]int{
			impl.KindTotient: impl.KindSelf, impl.KindSign: impl.KindUnit, impl.KindOne: impl.KindCount, impl.KindSelf: impl.KindSum, impl.KindUnit: impl.KindOne,
		} {
			got, ok := impl.SumOverDivisors(tableOf(t, kind, most))
			wantValue(t, of("SumOverDivisors of the kind", kind), got, ok, tableOf(t, want, most))
		}
		totients, ok := impl.OverDivisors(tableOf(t, impl.KindSign, most), tableOf(t, impl.KindSelf, most))
		wantValue(t, "OverDivisors of KindSign and KindSelf", totients, ok, tableOf(t, impl.KindTotient, most))
		sums, ok := impl.OverDivisors(tableOf(t, impl.KindTotient, most), tableOf(t, impl.KindCount, most))
		wantValue(t, "OverDivisors of KindTotient and KindCount", sums, ok, tableOf(t, impl.KindSum, most))
		signs, ok := impl.UndoTable(tableOf(t, impl.KindOne, most))
		wantValue(t, "UndoTable of KindOne", signs, ok, tableOf(t, impl.KindSign, most))
		ones, ok := impl.UndoTable(tableOf(t, impl.KindSign, most))
		wantValue(t, "UndoTable of KindSign", ones, ok, tableOf(t, impl.KindOne, most))
		unit, ok := impl.UndoTable(tableOf(t, impl.KindUnit, most))
		wantValue(t, "UndoTable of KindUnit", unit, ok, tableOf(t, impl.KindUnit, most))
	}
}

// isPlainSpread looks at all pairs of numbers whose product is in the table.
func isPlainSpread(a []int) bool {
	for m := 1; m <= len(a); m++ {
		for n := 1; m*n <= len(a); n++ {
			if haveNone(m, n) && a[m*n-1] != a[m-1]*a[n-1] {
				return false
			}
		}
	}
	return a[0] == 1
}

// plainSpread returns a spread table of numbers for powers of primes, which are small enough that their products are in a table.
func plainSpread(random *rand.Rand, length int) []int {
	list := slices.Repeat([]int{1}, length)
	for p, isPrime := range primeTable(length) {
		for power := p; isPrime && power <= length; power *= p {
			number := random.Intn(101) - 50
			for n := power; n <= length; n += power {
				if n/power%p != 0 {
					list[n-1] *= number
				}
			}
		}
	}
	return list
}

func TestSpreadIsPlain(t *testing.T) {
	random := rand.New(rand.NewSource(99))
	spread := 0
	for range 400 {
		a := plainSpread(random, 1+random.Intn(impl.MaxTable))
		for _, changes := range []int{0, 1, 2} {
			for range changes {
				a[random.Intn(len(a))] += random.Intn(3) - 1
			}
			want := isPlainSpread(a)
			if want {
				spread++
			}
			got, ok := impl.IsSpread(a)
			wantValue(t, "IsSpread of "+wordsOf(a), got, ok, want)
		}
	}
	if spread < 500 || spread > 1000 {
		t.Error("the test has too few spread tables, or too few others:", spread)
	}
}

// TestSmallTablesAreSpread has all tables of six numbers in -1..2, of which those of 2 and 3 are that of 6 together if they are spread.
func TestSmallTablesAreSpread(t *testing.T) {
	for code := range 1 << 12 {
		var a []int
		for k := range 6 {
			a = append(a, code>>(2*k)%4-1)
		}
		got, ok := impl.IsSpread(a)
		wantValue(t, "IsSpread of "+wordsOf(a), got, ok, a[0] == 1 && a[1]*a[2] == a[5])
		wantValue(t, "IsSpread of "+wordsOf(a), got, ok, isPlainSpread(a))
	}
}

// TestKindsAreSpread has the kinds, their products, and those undone.
func TestKindsAreSpread(t *testing.T) {
	for most := 1; most <= impl.MaxTable; most++ {
		for kind := range 49 {
			a, b := tableOf(t, kind%7, most), tableOf(t, kind/7, most)
			over, overOK := impl.OverDivisors(a, b)
			undo, undoOK := impl.UndoTable(a)
			for _, list := range [][]int{a, b, over, undo} {
				got, ok := impl.IsSpread(list)
				wantValue(t, "IsSpread of "+wordsOf(list), got, ok && overOK && undoOK, true)
			}
		}
	}
}

// TestProductsOfSpreadAreSpread has other spread tables, where their products are tables.
func TestProductsOfSpreadAreSpread(t *testing.T) {
	random := rand.New(rand.NewSource(100))
	products := 0
	for range 300 {
		length := 1 + random.Intn(impl.MaxTable)
		over, ok := impl.OverDivisors(plainSpread(random, length), plainSpread(random, length))
		if !ok {
			continue
		}
		products++
		got, ok := impl.IsSpread(over)
		wantValue(t, "IsSpread of a product", got, ok, true)
	}
	if products < 100 {
		t.Error("the test has too few products that are tables:", products)
	}
}

// TestPerfectByStep has PerfectUpTo with SumStep.
func TestPerfectByStep(t *testing.T) {
	isNot := func(n int) bool {
		step, ok := impl.SumStep(n)
		return step != n || !ok
	}
	perfect := slices.DeleteFunc(upTo(1, impl.MaxNumber), isNot)
	for most := range impl.MaxNumber + 1 {
		got, ok := impl.PerfectUpTo(most)
		wantValue(t, of("PerfectUpTo", most), got, ok, cutAt(perfect, most))
	}
}

// TestWaysAreSteps has SumWay with SumStep.
func TestWaysAreSteps(t *testing.T) {
	for _, n := range slices.Concat(upTo(1, 1500), someNumbers(300, 1501, mostDivided, 101), upTo(mostDivided-20, mostDivided)) {
		want := []int{n}
		for steps := range 21 {
			got, ok := impl.SumWay(n, steps)
			wantValue(t, of("SumWay", n), got, ok, want)
			last := want[len(want)-1]
			step, ok := impl.SumStep(last)
			if ok != (last >= 1 && last <= mostDivided) {
				t.Fatal("SumStep", last, step, ok)
			}
			if ok {
				want = append(want, step)
			}
		}
	}
}

// TestFriendsBySteps has AmicableOf with SumStep, and each friend with its friend.
func TestFriendsBySteps(t *testing.T) {
	for n := 1; n <= 30000; n++ {
		m, stepped := impl.SumStep(n)
		back, _ := impl.SumStep(m)
		friend, ok := impl.AmicableOf(n)
		if !stepped || ok != (m != n && back == n) || ok && friend != m || !ok && friend != 0 {
			t.Fatal("AmicableOf and SumStep disagree", n, m, back, friend, ok)
		}
		if ok {
			again, fine := impl.AmicableOf(friend)
			wantValue(t, of("AmicableOf", friend), again, fine, n)
		}
	}
}

// TestFriendsArePlain has all numbers up to 1000000, with a table of sums that has those of all their friends, too.
func TestFriendsArePlain(t *testing.T) {
	_, sums := dividedTables(4 * mostDivided)
	friends := 0
	for n := 1; n <= mostDivided; n++ {
		want := 0
		if m := sums[n] - n; m != n && sums[m]-m == n {
			want = m
			friends++
		}
		got, ok := impl.AmicableOf(n)
		if got != want || ok != (want > 0) {
			t.Fatal("AmicableOf", n, got, ok, want)
		}
	}
	if friends != 82 {
		t.Error("there are not as many numbers with friends as there should be:", friends)
	}
}

// TestRecordsByCounts has RecordsUpTo with CountDivisors.
func TestRecordsByCounts(t *testing.T) {
	var records []int
	greatest := 0
	for n := 1; n <= impl.MaxNumber; n++ {
		count, ok := impl.CountDivisors(n)
		if count > greatest {
			greatest = count
			records = append(records, n)
		}
		got, fine := impl.RecordsUpTo(n)
		wantValue(t, of("RecordsUpTo", n), got, ok && fine, records)
	}
}
