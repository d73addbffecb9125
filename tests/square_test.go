package tests

// Promise 6: square-free numbers are counted by signs, and sums of squares told by remainders.

import (
	"slices"
	"testing"

	"loop.example/g01235/impl"
)

// squareParts are a number, its square part, its kernel and its sign.
type squareParts struct{ n, part, kernel, sign int }

func knownParts() []squareParts {
	return []squareParts{
		{1, 1, 1, 1}, {2, 1, 2, -1}, {3, 1, 3, -1}, {4, 2, 2, 0}, {5, 1, 5, -1}, {6, 1, 6, 1}, {7, 1, 7, -1}, {8, 2, 2, 0}, {9, 3, 3, 0}, {10, 1, 10, 1}, {12, 2, 6, 0}, {16, 4, 2, 0}, {18, 3, 6, 0},
		{25, 5, 5, 0}, {27, 3, 3, 0}, {30, 1, 30, -1}, {32, 4, 2, 0}, {36, 6, 6, 0}, {48, 4, 6, 0}, {49, 7, 7, 0}, {50, 5, 10, 0}, {60, 2, 30, 0}, {64, 8, 2, 0}, {72, 6, 6, 0}, {97, 1, 97, -1}, {98, 7, 14, 0},
		{100, 10, 10, 0}, {101, 1, 101, -1}, {121, 11, 11, 0}, {128, 8, 2, 0}, {144, 12, 6, 0}, {180, 6, 30, 0}, {210, 1, 210, 1}, {225, 15, 15, 0}, {243, 9, 3, 0}, {360, 6, 30, 0}, {441, 21, 21, 0}, {480, 4, 30, 0},
		{512, 16, 2, 0}, {529, 23, 23, 0}, {600, 10, 30, 0}, {625, 25, 5, 0}, {729, 27, 3, 0}, {900, 30, 30, 0}, {961, 31, 31, 0}, {1024, 32, 2, 0}, {1225, 35, 35, 0}, {1729, 1, 1729, -1}, {2025, 45, 15, 0},
		{2310, 1, 2310, -1}, {2401, 49, 7, 0}, {5040, 12, 210, 0}, {6561, 81, 3, 0}, {8281, 91, 91, 0}, {9409, 97, 97, 0}, {30030, 1, 30030, 1}, {30031, 1, 30031, 1}, {32768, 128, 2, 0}, {44100, 210, 210, 0},
		{46656, 216, 6, 0}, {50000, 100, 10, 0}, {59049, 243, 3, 0}, {65536, 256, 2, 0}, {65537, 1, 65537, -1}, {72030, 49, 210, 0}, {74088, 42, 42, 0}, {75600, 60, 210, 0}, {78125, 125, 5, 0}, {83521, 289, 17, 0},
		{90000, 300, 30, 0}, {90090, 3, 30030, 0}, {94864, 308, 154, 0}, {96721, 311, 311, 0}, {97020, 42, 2310, 0}, {97336, 46, 46, 0}, {99225, 315, 105, 0}, {99458, 223, 446, 0}, {99856, 316, 158, 0},
		{99983, 1, 99983, 1}, {99989, 1, 99989, -1}, {99990, 3, 33330, 0}, {99991, 1, 99991, -1}, {99992, 2, 24998, 0}, {99993, 1, 99993, 1}, {99994, 17, 5882, 0}, {99995, 1, 99995, -1}, {99996, 2, 49998, 0},
		{99997, 19, 5263, 0}, {99998, 1, 99998, 1}, {99999, 3, 33333, 0}, {impl.MaxAsked, 100, 10, 0},
	}
}

func TestSquareParts(t *testing.T) {
	for _, c := range knownParts() {
		free, ok := impl.IsSquareFree(c.n)
		wantValue(t, of("IsSquareFree", c.n), free, ok, c.sign != 0)
		part, ok := impl.SquarePart(c.n)
		wantValue(t, of("SquarePart", c.n), part, ok, c.part)
		kernel, ok := impl.KernelOf(c.n)
		wantValue(t, of("KernelOf", c.n), kernel, ok, c.kernel)
		sign, ok := impl.FreeSign(c.n)
		wantValue(t, of("FreeSign", c.n), sign, ok, c.sign)
	}
}

func TestNumbersBeyondAsked(t *testing.T) {
	for _, n := range []int{-4, -1, 0, impl.MaxAsked + 1, impl.MaxAsked + 24, 1000000} {
		free, ok := impl.IsSquareFree(n)
		wantFail(t, of("IsSquareFree", n), free, ok)
		part, ok := impl.SquarePart(n)
		wantFail(t, of("SquarePart", n), part, ok)
		kernel, ok := impl.KernelOf(n)
		wantFail(t, of("KernelOf", n), kernel, ok)
		sign, ok := impl.FreeSign(n)
		wantFail(t, of("FreeSign", n), sign, ok)
		count, ok := impl.CountSquareFree(n)
		wantFail(t, of("CountSquareFree", n), count, ok)
		next, ok := impl.NextSquareFree(n)
		wantFail(t, of("NextSquareFree", n), next, ok)
		lists, ok := impl.TwoSquares(n)
		wantFail(t, of("TwoSquares", n), lists, ok)
		asTwo, ok := impl.CountAsTwo(n)
		wantFail(t, of("CountAsTwo", n), asTwo, ok)
		two, ok := impl.IsSumOfTwo(n)
		wantFail(t, of("IsSumOfTwo", n), two, ok)
		three, ok := impl.IsSumOfThree(n)
		wantFail(t, of("IsSumOfThree", n), three, ok)
		asFour, ok := impl.CountAsFour(n)
		wantFail(t, of("CountAsFour", n), asFour, ok)
		pairs, ok := impl.CountInCircle(n)
		wantFail(t, of("CountInCircle", n), pairs, ok)
	}
}

func TestSumOfSigns(t *testing.T) {
	for n, want := range map[int]int{
		1: 1, 2: 0, 3: -1, 4: -1, 5: -2, 6: -1, 7: -2, 8: -2, 9: -2, 10: -1, 13: -3, 16: -1, 19: -3, 31: -4, 39: 0, 40: 0, 94: 1, 95: 2, 96: 2, 100: 1, 101: 0, 110: -5, 113: -5, 114: -6, 199: -8, 200: -8,
		300: -5, 331: 0, 400: 1, 443: -9, 500: -6, 586: 7, 599: 4, impl.MaxNumber: 4,
	} {
		got, ok := impl.SumOfSigns(n)
		wantValue(t, of("SumOfSigns", n), got, ok, want)
	}
	for _, n := range []int{-1, 0, impl.MaxNumber + 1, impl.MaxAsked} {
		got, ok := impl.SumOfSigns(n)
		wantFail(t, of("SumOfSigns", n), got, ok)
	}
}

func TestCountSquareFree(t *testing.T) {
	for n, want := range map[int]int{
		1: 1, 2: 2, 3: 3, 4: 3, 5: 4, 7: 6, 8: 6, 9: 6, 10: 7, 11: 8, 12: 8, 16: 11, 24: 16, 25: 16, 35: 23, 36: 23, 48: 31, 49: 31, 50: 31, 51: 32, 99: 61, 100: 61, 101: 62, 176: 106, 600: 366, 1000: 608,
		9999: 6083, 10000: 6083, 49999: 30401, 50000: 30401, 96720: 58801, 96721: 58801, 97968: 59560, 97969: 59560, 99855: 60709, 99856: 60709, 99998: 60794, 99999: 60794, impl.MaxAsked: 60794,
	} {
		got, ok := impl.CountSquareFree(n)
		wantValue(t, of("CountSquareFree", n), got, ok, want)
	}
}

// freeUpToHundred are the square-free numbers up to 100.
func freeUpToHundred() []int {
	return []int{
		1, 2, 3, 5, 6, 7, 10, 11, 13, 14, 15, 17, 19, 21, 22, 23, 26, 29, 30, 31, 33, 34, 35, 37, 38, 39, 41, 42, 43, 46, 47, 51, 53, 55, 57, 58, 59, 61, 62, 65, 66, 67, 69, 70, 71, 73, 74, 77, 78, 79,
		82, 83, 85, 86, 87, 89, 91, 93, 94, 95, 97,
	}
}

func TestSquareFreeUpTo(t *testing.T) {
	for most := range 101 {
		got, ok := impl.SquareFreeUpTo(most)
		wantValue(t, of("SquareFreeUpTo", most), got, ok, cutAt(freeUpToHundred(), most))
	}
	got, ok := impl.SquareFreeUpTo(impl.MaxNumber)
	if !ok || len(got) != 366 {
		t.Fatal("SquareFreeUpTo MaxNumber", len(got), ok)
	}
	wantValue(t, "the last ones of SquareFreeUpTo", got[361:], ok, []int{593, 595, 597, 598, 599})
	for _, most := range []int{-1, -100, impl.MaxNumber + 1, impl.MaxAsked} {
		got, ok := impl.SquareFreeUpTo(most)
		wantFail(t, of("SquareFreeUpTo", most), got, ok)
	}
}

func TestSquareFreeOfRank(t *testing.T) {
	for rank, want := range map[int]int{
		0: 1, 1: 2, 2: 3, 3: 5, 4: 6, 5: 7, 6: 10, 7: 11, 8: 13, 30: 47, 31: 51, 60: 97, 61: 101, 62: 102, 99: 163, 100: 165, 150: 246, 199: 326, 200: 327, 250: 411, 298: 487, 299: 489, 300: 491,
	} {
		got, ok := impl.SquareFreeOfRank(rank)
		wantValue(t, of("SquareFreeOfRank", rank), got, ok, want)
	}
	for _, rank := range []int{-1, -2, 301, 302, 365, 366, 600, impl.MaxAsked} {
		got, ok := impl.SquareFreeOfRank(rank)
		wantFail(t, of("SquareFreeOfRank", rank), got, ok)
	}
}

// TestNextSquareFree has numbers behind which runs begin, goes on within runs, and ends behind MaxAsked.
func TestNextSquareFree(t *testing.T) {
	for n, want := range map[int]int{
		1: 2, 2: 3, 3: 5, 4: 5, 5: 6, 6: 7, 7: 10, 8: 10, 9: 10, 10: 11, 11: 13, 15: 17, 23: 26, 24: 26, 26: 29, 47: 51, 48: 51, 49: 51, 50: 51, 97: 101, 100: 101, 241: 246, 243: 246, 245: 246, 246: 247,
		599: 601, 600: 601, 843: 849, 844: 849, 848: 849, 849: 851, 22019: 22026, 22025: 22026, 22026: 22027, 99989: 99991, 99993: 99995, 99995: 99998, 99998: 100001, 99999: 100001, impl.MaxAsked: 100001,
	} {
		got, ok := impl.NextSquareFree(n)
		wantValue(t, of("NextSquareFree", n), got, ok, want)
	}
}

// TestLongestSquareful has runs that come more than once, that end just at most, and that go on behind it.
func TestLongestSquareful(t *testing.T) {
	for most, want := range map[int][2]int{
		0: {0, 0}, 1: {0, 0}, 2: {0, 0}, 3: {0, 0}, 4: {1, 4}, 5: {1, 4}, 7: {1, 4}, 8: {1, 4}, 9: {2, 8}, 10: {2, 8}, 25: {2, 8}, 28: {2, 8}, 45: {2, 8}, 48: {2, 8}, 49: {2, 8}, 50: {3, 48}, 51: {3, 48},
		99: {3, 48}, 100: {3, 48}, 101: {3, 48}, 126: {3, 48}, 243: {3, 48}, 244: {3, 48}, 245: {4, 242}, 246: {4, 242}, 352: {4, 242}, 599: {4, 242}, impl.MaxNumber: {4, 242},
	} {
		longest, first, ok := impl.LongestSquareful(most)
		wantValue(t, of("LongestSquareful", most), [2]int{longest, first}, ok, want)
	}
	for _, most := range []int{-1, -50, impl.MaxNumber + 1, impl.MaxAsked} {
		longest, first, ok := impl.LongestSquareful(most)
		wantFail(t, of("LongestSquareful", most), [2]int{longest, first}, ok)
	}
}

// asTwo are a number, its sums of two squares, and in how many ways it is one.
type asTwo struct {
	n    int
	sums [][]int
	ways int
}

// onceAsTwo are squares, twice squares, and others that are a sum in one way.
func onceAsTwo() []asTwo {
	return []asTwo{
		{1, [][]int{{0, 1}}, 4}, {4, [][]int{{0, 2}}, 4}, {9, [][]int{{0, 3}}, 4}, {16, [][]int{{0, 4}}, 4}, {49, [][]int{{0, 7}}, 4}, {441, [][]int{{0, 21}}, 4}, {82944, [][]int{{0, 288}}, 4},
		{96721, [][]int{{0, 311}}, 4}, {99856, [][]int{{0, 316}}, 4}, {65536, [][]int{{0, 256}}, 4}, {59049, [][]int{{0, 243}}, 4}, {46656, [][]int{{0, 216}}, 4},
		{2, [][]int{{1, 1}}, 4}, {8, [][]int{{2, 2}}, 4}, {18, [][]int{{3, 3}}, 4}, {32, [][]int{{4, 4}}, 4}, {98, [][]int{{7, 7}}, 4}, {242, [][]int{{11, 11}}, 4}, {512, [][]int{{16, 16}}, 4}, {32768, [][]int{{128, 128}}, 4},
		{5, [][]int{{1, 2}}, 8}, {10, [][]int{{1, 3}}, 8}, {13, [][]int{{2, 3}}, 8}, {20, [][]int{{2, 4}}, 8}, {45, [][]int{{3, 6}}, 8}, {90, [][]int{{3, 9}}, 8}, {65537, [][]int{{1, 256}}, 8},
		{99972, [][]int{{174, 264}}, 8}, {99976, [][]int{{126, 290}}, 8}, {99989, [][]int{{217, 230}}, 8}, {99997, [][]int{{171, 266}}, 8},
	}
}

// oftenAsTwo are sums in two and more ways.
func oftenAsTwo() []asTwo {
	return []asTwo{
		{25, [][]int{{0, 5}, {3, 4}}, 12}, {50, [][]int{{1, 7}, {5, 5}}, 12}, {65, [][]int{{1, 8}, {4, 7}}, 16}, {85, [][]int{{2, 9}, {6, 7}}, 16}, {100, [][]int{{0, 10}, {6, 8}}, 12}, {125, [][]int{{2, 11}, {5, 10}}, 16},
		{169, [][]int{{0, 13}, {5, 12}}, 12}, {200, [][]int{{2, 14}, {10, 10}}, 12}, {225, [][]int{{0, 15}, {9, 12}}, 12}, {338, [][]int{{7, 17}, {13, 13}}, 12}, {1000, [][]int{{10, 30}, {18, 26}}, 16},
		{325, [][]int{{1, 18}, {6, 17}, {10, 15}}, 24}, {625, [][]int{{0, 25}, {7, 24}, {15, 20}}, 20}, {1250, [][]int{{5, 35}, {17, 31}, {25, 25}}, 20}, {2500, [][]int{{0, 50}, {14, 48}, {30, 40}}, 20},
		{1105, [][]int{{4, 33}, {9, 32}, {12, 31}, {23, 24}}, 32}, {15625, [][]int{{0, 125}, {35, 120}, {44, 117}, {75, 100}}, 28}, {78125, [][]int{{29, 278}, {50, 275}, {125, 250}, {190, 205}}, 32},
		{4225, [][]int{{0, 65}, {16, 63}, {25, 60}, {33, 56}, {39, 52}}, 36}, {8450, [][]int{{13, 91}, {23, 89}, {35, 85}, {47, 79}, {65, 65}}, 36},
		{5525, [][]int{{7, 74}, {14, 73}, {22, 71}, {25, 70}, {41, 62}, {50, 55}}, 48}, {27625, [][]int{{20, 165}, {27, 164}, {45, 160}, {60, 155}, {83, 144}, {88, 141}, {101, 132}, {115, 120}}, 64},
		{71825, [][]int{{1, 268}, {40, 265}, {65, 260}, {76, 257}, {104, 247}, {127, 236}, {160, 215}, {169, 208}, {188, 191}}, 72},
		{96722, [][]int{{1, 311}, {199, 239}}, 16}, {97344, [][]int{{0, 312}, {120, 288}}, 12}, {99225, [][]int{{0, 315}, {189, 252}}, 12}, {99977, [][]int{{11, 316}, {139, 284}}, 16},
		{99994, [][]int{{45, 313}, {137, 285}, {187, 255}}, 24}, {impl.MaxAsked, [][]int{{12, 316}, {100, 300}, {180, 260}}, 24},
	}
}

// neverAsTwo are no sums of two squares, many of them with a divisor that is one.
func neverAsTwo() []asTwo {
	var numbers []asTwo
	for _, n := range []int{
		3, 6, 7, 11, 12, 14, 15, 21, 22, 27, 28, 30, 33, 35, 54, 60, 63, 75, 99, 147, 189, 243, 250 * 3, 343, 625 * 3, 1001, 2187, 2500 * 7, 48612, 65535, 90090, 99968, 99971, 99981, 99991, 99992, 99993, 99995, 99996, 99998, 99999,
	} {
		numbers = append(numbers, asTwo{n: n})
	}
	return numbers
}

func TestSumsOfTwo(t *testing.T) {
	for _, c := range slices.Concat(onceAsTwo(), oftenAsTwo(), neverAsTwo()) {
		sums, ok := impl.TwoSquares(c.n)
		wantValue(t, of("TwoSquares", c.n), sums, ok, c.sums)
		ways, ok := impl.CountAsTwo(c.n)
		wantValue(t, of("CountAsTwo", c.n), ways, ok, c.ways)
		is, ok := impl.IsSumOfTwo(c.n)
		wantValue(t, of("IsSumOfTwo", c.n), is, ok, c.ways > 0)
	}
}

func sumsUpTo130() []int {
	return []int{
		1, 2, 4, 5, 8, 9, 10, 13, 16, 17, 18, 20, 25, 26, 29, 32, 34, 36, 37, 40, 41, 45, 49, 50, 52, 53, 58, 61, 64, 65, 68, 72, 73, 74, 80, 81, 82, 85, 89, 90, 97, 98, 100, 101, 104, 106, 109, 113, 116, 117,
		121, 122, 125, 128, 130,
	}
}

func TestSumsOfTwoUpTo(t *testing.T) {
	for most := range 131 {
		got, ok := impl.SumsOfTwoUpTo(most)
		wantValue(t, of("SumsOfTwoUpTo", most), got, ok, cutAt(sumsUpTo130(), most))
	}
	got, ok := impl.SumsOfTwoUpTo(impl.MaxNumber)
	if !ok || len(got) != 208 {
		t.Fatal("SumsOfTwoUpTo MaxNumber", len(got), ok)
	}
	wantValue(t, "the last ones of SumsOfTwoUpTo", got[202:], ok, []int{584, 585, 586, 592, 593, 596})
	for _, most := range []int{-1, -100, impl.MaxNumber + 1, impl.MaxAsked} {
		got, ok := impl.SumsOfTwoUpTo(most)
		wantFail(t, of("SumsOfTwoUpTo", most), got, ok)
	}
}

// noSumsOfThree are 7 modulo 8, some times powers of 4.
func noSumsOfThree() []int {
	return []int{
		7, 15, 23, 28, 31, 39, 47, 55, 60, 63, 71, 79, 87, 92, 95, 103, 111, 112, 119, 124, 127, 135, 143, 151, 156, 159, 240, 255, 448, 960, 1023, 1792, 3840, 4095, 7168, 28672, 61440, 65535,
		99935, 99943, 99951, 99952, 99959, 99964, 99967, 99975, 99983, 99991, 99996, 99999,
	}
}

func TestIsSumOfThree(t *testing.T) {
	for _, n := range noSumsOfThree() {
		got, ok := impl.IsSumOfThree(n)
		wantValue(t, of("IsSumOfThree", n), got, ok, false)
	}
	for _, n := range upTo(1, 159) {
		got, ok := impl.IsSumOfThree(n)
		wantValue(t, of("IsSumOfThree", n), got, ok, !slices.Contains(noSumsOfThree(), n))
	}
	for _, n := range []int{
		3, 12, 48, 192, 768, 3072, 12288, 49152, 14, 56, 224, 896, 3584, 14336, 57344, 4, 16, 64, 256, 1024, 4096, 16384, 65536, 8192, 32768, 5 * 4096, 6 * 4096, 30, 120, 480, 65534, 65537, 99992, 99993, 99994, 99995, 99997, 99998, impl.MaxAsked,
	} {
		got, ok := impl.IsSumOfThree(n)
		wantValue(t, of("IsSumOfThree", n), got, ok, true)
	}
}

// firstFours are numbers with their first sums of four squares: with none, one, two and three of them 0.
func firstFours() map[int][]int {
	return map[int][]int{
		1: {0, 0, 0, 1}, 2: {0, 0, 1, 1}, 3: {0, 1, 1, 1}, 4: {0, 0, 0, 2}, 5: {0, 0, 1, 2}, 6: {0, 1, 1, 2}, 7: {1, 1, 1, 2}, 8: {0, 0, 2, 2}, 9: {0, 0, 0, 3}, 10: {0, 0, 1, 3}, 11: {0, 1, 1, 3},
		12: {0, 2, 2, 2}, 13: {0, 0, 2, 3}, 14: {0, 1, 2, 3}, 15: {1, 1, 2, 3}, 16: {0, 0, 0, 4}, 17: {0, 0, 1, 4}, 18: {0, 0, 3, 3}, 19: {0, 1, 3, 3}, 22: {0, 2, 3, 3}, 23: {1, 2, 3, 3}, 24: {0, 2, 2, 4},
		25: {0, 0, 0, 5}, 27: {0, 1, 1, 5}, 28: {1, 1, 1, 5}, 31: {1, 1, 2, 5}, 36: {0, 0, 0, 6}, 39: {1, 1, 1, 6}, 47: {1, 1, 3, 6}, 49: {0, 0, 0, 7}, 50: {0, 0, 1, 7}, 60: {1, 1, 3, 7}, 63: {1, 1, 5, 6},
		71: {1, 3, 5, 6}, 79: {1, 2, 5, 7}, 96: {0, 4, 4, 8}, 100: {0, 0, 0, 10}, 112: {2, 2, 2, 10}, 128: {0, 0, 8, 8}, 156: {1, 3, 5, 11}, 191: {1, 3, 9, 10}, 240: {2, 2, 6, 14}, 256: {0, 0, 0, 16},
		448: {4, 4, 4, 20}, 559: {1, 1, 14, 19}, 600: {0, 2, 14, 20}, 624: {2, 6, 10, 22}, 960: {4, 4, 12, 28}, 1792: {8, 8, 8, 40}, 2303: {1, 3, 23, 42}, 2500: {0, 0, 0, 50}, 3584: {0, 16, 32, 48},
		3840: {8, 8, 24, 56}, 4096: {0, 0, 0, 64}, 4544: {4, 12, 28, 60}, 4607: {1, 3, 41, 54}, 4900: {0, 0, 0, 70}, 4991: {1, 2, 15, 69}, 4992: {0, 16, 40, 56}, 4995: {0, 3, 15, 69}, 4996: {0, 0, 30, 64},
		4998: {0, 5, 22, 67}, 4999: {1, 5, 22, 67}, 5000: {0, 0, 10, 70},
	}
}

func TestFourSquares(t *testing.T) {
	for n, want := range firstFours() {
		got, ok := impl.FourSquares(n)
		wantValue(t, of("FourSquares", n), got, ok, want)
	}
	for _, n := range []int{-7, -1, 0, 5001, 5002, 10000, impl.MaxAsked, impl.MaxAsked + 1} {
		got, ok := impl.FourSquares(n)
		wantFail(t, of("FourSquares", n), got, ok)
	}
}

// TestCountAsFour has powers of 2, which from 2 on are sums in 24 ways each, odd numbers and twice, four and eight times them, and numbers with many divisors.
func TestCountAsFour(t *testing.T) {
	for n := 2; n <= impl.MaxAsked; n *= 2 {
		got, ok := impl.CountAsFour(n)
		wantValue(t, of("CountAsFour", n), got, ok, 24)
	}
	for n, want := range map[int]int{
		1: 8, 3: 32, 5: 48, 6: 96, 7: 64, 9: 104, 10: 144, 12: 96, 13: 112, 15: 192, 20: 144, 21: 256, 24: 96, 25: 248, 28: 192, 30: 576, 36: 312, 48: 96, 49: 456, 50: 744, 60: 576, 97: 784, 100: 744,
		112: 192, 144: 312, 169: 1464, 360: 1872, 600: 2976, 729: 8744, 3600: 9672, 5000: 18744, 5001: 53376, 5040: 14976, 10000: 18744, 46656: 26232, 50000: 93744, 59049: 708584, 65535: 891648,
		65537: 524304, 72072: 419328, 75600: 238080, 83160: 552960, 98280: 645120, 99225: 1710456, 99856: 151704, 99989: 799920, 99991: 799936, 99998: 1200000, 99999: 1188096, impl.MaxAsked: 93744,
	} {
		got, ok := impl.CountAsFour(n)
		wantValue(t, of("CountAsFour", n), got, ok, want)
	}
}

func TestCountInCircle(t *testing.T) {
	for n, want := range map[int]int{
		1: 5, 2: 9, 3: 9, 4: 13, 5: 21, 7: 21, 8: 25, 9: 29, 10: 37, 15: 45, 16: 49, 24: 69, 25: 81, 26: 89, 35: 109, 36: 113, 48: 145, 49: 149, 50: 161, 63: 193, 64: 197, 65: 213, 80: 249, 81: 253,
		99: 305, 100: 317, 101: 325, 144: 441, 169: 529, 255: 793, 256: 797, 400: 1257, 600: 1885, 624: 1941, 625: 1961, 900: 2821, 1024: 3209, 2499: 7825, 2500: 7845, 9999: 31397, 10000: 31417,
		40000: 125629, 49999: 157069, 50000: 157093, 65536: 205861, 90000: 282697, 96720: 303805, 96721: 303809, 99855: 313673, 99856: 313677, 99857: 313693, 99998: 314173, 99999: 314173, impl.MaxAsked: 314197,
	} {
		got, ok := impl.CountInCircle(n)
		wantValue(t, of("CountInCircle", n), got, ok, want)
	}
}

func TestExampleOfSquares(t *testing.T) {
	part, ok := impl.SquarePart(50)
	wantValue(t, "SquarePart", part, ok, 5)
	kernel, ok := impl.KernelOf(50)
	wantValue(t, "KernelOf", kernel, ok, 10)
	sign, ok := impl.FreeSign(50)
	wantValue(t, "FreeSign", sign, ok, 0)
	sums, ok := impl.TwoSquares(50)
	wantValue(t, "TwoSquares", sums, ok, [][]int{{1, 7}, {5, 5}})
	ways, ok := impl.CountAsTwo(50)
	wantValue(t, "CountAsTwo", ways, ok, 12)
	count, ok := impl.CountSquareFree(10)
	wantValue(t, "CountSquareFree", count, ok, 7)
	longest, first, ok := impl.LongestSquareful(50)
	wantValue(t, "LongestSquareful", [2]int{longest, first}, ok, [2]int{3, 48})
	four, ok := impl.FourSquares(7)
	wantValue(t, "FourSquares", four, ok, []int{1, 1, 1, 2})
	three, ok := impl.IsSumOfThree(7)
	wantValue(t, "IsSumOfThree", three, ok, false)
}
