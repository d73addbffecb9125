package tests

// Promise 7: tables are multiplied over divisors, and undone.

import (
	"math"
	"slices"
	"testing"

	"loop.example/g01235/impl"
)

// mostDivided is the greatest number whose divisors are told.
const mostDivided = 1000000

// mostTabled is the greatest size of a number in a table.
const mostTabled = 1000000

// divided are a number, how many divisors it has, their sum, its totient and its sign.
type divided struct{ n, count, sum, totient, sign int }

// knownDivided are small numbers, primes, squares and other powers, products of many primes, numbers with the most divisors, and the last ones.
func knownDivided() []divided {
	return []divided{
		{1, 1, 1, 1, 1}, {2, 2, 3, 1, -1}, {3, 2, 4, 2, -1}, {4, 3, 7, 2, 0}, {5, 2, 6, 4, -1}, {6, 4, 12, 2, 1}, {7, 2, 8, 6, -1}, {8, 4, 15, 4, 0}, {9, 3, 13, 6, 0}, {10, 4, 18, 4, 1}, {11, 2, 12, 10, -1},
		{12, 6, 28, 4, 0}, {13, 2, 14, 12, -1}, {16, 5, 31, 8, 0}, {18, 6, 39, 6, 0}, {24, 8, 60, 8, 0}, {25, 3, 31, 20, 0}, {28, 6, 56, 12, 0}, {30, 8, 72, 8, -1}, {32, 6, 63, 16, 0}, {36, 9, 91, 12, 0},
		{48, 10, 124, 16, 0}, {49, 3, 57, 42, 0}, {60, 12, 168, 16, 0}, {64, 7, 127, 32, 0}, {72, 12, 195, 24, 0}, {81, 5, 121, 54, 0}, {97, 2, 98, 96, -1}, {100, 9, 217, 40, 0}, {101, 2, 102, 100, -1},
		{120, 16, 360, 32, 0}, {121, 3, 133, 110, 0}, {128, 8, 255, 64, 0}, {144, 15, 403, 48, 0}, {169, 3, 183, 156, 0}, {180, 18, 546, 48, 0}, {210, 16, 576, 48, 1}, {220, 12, 504, 80, 0},
		{240, 20, 744, 64, 0}, {243, 6, 364, 162, 0}, {256, 9, 511, 128, 0}, {284, 6, 504, 140, 0}, {343, 4, 400, 294, 0}, {360, 24, 1170, 96, 0}, {496, 10, 992, 240, 0}, {499, 2, 500, 498, -1},
		{500, 12, 1092, 200, 0}, {512, 10, 1023, 256, 0}, {529, 3, 553, 506, 0}, {600, 24, 1860, 160, 0}, {601, 2, 602, 600, -1}, {625, 5, 781, 500, 0}, {720, 30, 2418, 192, 0}, {729, 7, 1093, 486, 0},
		{840, 32, 2880, 192, 0}, {900, 27, 2821, 240, 0}, {961, 3, 993, 930, 0}, {997, 2, 998, 996, -1}, {999, 8, 1520, 648, 0}, {1000, 16, 2340, 400, 0}, {1001, 8, 1344, 720, -1}, {1024, 11, 2047, 512, 0},
		{1225, 9, 1767, 840, 0}, {1260, 36, 4368, 288, 0}, {1296, 25, 3751, 432, 0}, {1331, 4, 1464, 1210, 0}, {1729, 8, 2240, 1296, -1}, {2048, 12, 4095, 1024, 0}, {2187, 8, 3280, 1458, 0},
		{2310, 32, 6912, 480, -1}, {2520, 48, 9360, 576, 0}, {3125, 6, 3906, 2500, 0}, {4096, 13, 8191, 2048, 0}, {5040, 60, 19344, 1152, 0}, {6561, 9, 9841, 4374, 0}, {7919, 2, 7920, 7918, -1},
		{8128, 14, 16256, 4032, 0}, {9973, 2, 9974, 9972, -1}, {9999, 12, 15912, 6000, 0}, {10000, 25, 24211, 4000, 0}, {10201, 3, 10303, 10100, 0}, {10403, 4, 10608, 10200, 1}, {15625, 7, 19531, 12500, 0},
		{16384, 15, 32767, 8192, 0}, {16807, 6, 19608, 14406, 0}, {30030, 64, 96768, 5760, 1}, {30031, 4, 30600, 29464, 1}, {32768, 16, 65535, 16384, 0}, {44100, 81, 160797, 10080, 0},
		{46656, 49, 138811, 15552, 0}, {65535, 16, 111456, 32768, 1}, {65536, 17, 131071, 32768, 0}, {65537, 2, 65538, 65536, -1}, {78125, 8, 97656, 62500, 0}, {83160, 128, 345600, 17280, 0},
		{88200, 108, 344565, 20160, 0}, {99991, 2, 99992, 99990, -1}, {99999, 12, 148512, 64800, 0}, {100000, 36, 246078, 40000, 0}, {100003, 2, 100004, 100002, -1}, {110880, 144, 471744, 23040, 0},
		{117649, 7, 137257, 100842, 0}, {131072, 18, 262143, 65536, 0}, {161051, 6, 177156, 146410, 0}, {166320, 160, 714240, 34560, 0}, {177147, 12, 265720, 118098, 0}, {248832, 66, 745108, 82944, 0},
		{262144, 19, 524287, 131072, 0}, {332640, 192, 1451520, 69120, 0}, {360360, 192, 1572480, 69120, 0}, {371293, 6, 402234, 342732, 0}, {390625, 9, 488281, 312500, 0}, {498960, 200, 2160576, 103680, 0},
		{500000, 42, 1230453, 200000, 0}, {510510, 128, 1741824, 92160, -1}, {510511, 8, 544880, 476928, -1}, {524287, 2, 524288, 524286, -1}, {524288, 20, 1048575, 262144, 0}, {531441, 13, 797161, 354294, 0},
		{554400, 216, 2437344, 115200, 0}, {570570, 128, 1935360, 103680, -1}, {665280, 224, 2926080, 138240, 0}, {690690, 128, 2322432, 126720, -1}, {720720, 240, 3249792, 138240, 0},
		{746130, 128, 2488320, 138240, -1}, {823543, 8, 960800, 705894, 0}, {831600, 240, 3690240, 172800, 0}, {870870, 128, 2903040, 161280, -1}, {881790, 128, 2903040, 165888, -1},
		{903210, 128, 2985984, 168960, -1}, {930930, 128, 3096576, 172800, -1}, {942480, 240, 4178304, 184320, 0}, {970299, 28, 1600152, 588060, 0}, {982800, 240, 4305280, 207360, 0},
		{994009, 3, 995007, 993012, 0}, {997002, 32, 2280000, 322704, 0}, {998001, 21, 1537851, 647352, 0}, {998244, 72, 2853760, 303264, 0}, {999979, 2, 999980, 999978, -1}, {999983, 2, 999984, 999982, -1},
		{999984, 40, 2624832, 328000, 0}, {999985, 8, 1371456, 685680, -1}, {999986, 8, 1615404, 461520, -1}, {999987, 8, 1339536, 663552, -1}, {999997, 4, 1002076, 997920, 1}, {999998, 12, 1560672, 480060, 0},
		{999999, 64, 2042880, 466560, 0}, {1000000, 49, 2480437, 400000, 0},
	}
}

func TestNumbersOfDivisors(t *testing.T) {
	for _, c := range knownDivided() {
		count, ok := impl.CountDivisors(c.n)
		wantValue(t, of("CountDivisors", c.n), count, ok, c.count)
		sum, ok := impl.SumDivisors(c.n)
		wantValue(t, of("SumDivisors", c.n), sum, ok, c.sum)
		step, ok := impl.SumStep(c.n)
		wantValue(t, of("SumStep", c.n), step, ok, c.sum-c.n)
		totient, ok := impl.TotientOf(c.n)
		wantValue(t, of("TotientOf", c.n), totient, ok, c.totient)
		sign, ok := impl.MoebiusOf(c.n)
		wantValue(t, of("MoebiusOf", c.n), sign, ok, c.sign)
	}
}

// noDivided are numbers just behind the limits, and far behind them.
func noDivided() []int {
	return []int{math.MinInt, math.MinInt + 1, -mostDivided, -12, -2, -1, 0, mostDivided + 1, mostDivided + 2, 1125765, impl.MaxFactored, math.MaxInt - 1, math.MaxInt}
}

func TestNumbersBeyondDivided(t *testing.T) {
	for _, n := range noDivided() {
		list, ok := impl.DivisorsOf(n)
		wantFail(t, of("DivisorsOf", n), list, ok)
		count, ok := impl.CountDivisors(n)
		wantFail(t, of("CountDivisors", n), count, ok)
		sum, ok := impl.SumDivisors(n)
		wantFail(t, of("SumDivisors", n), sum, ok)
		step, ok := impl.SumStep(n)
		wantFail(t, of("SumStep", n), step, ok)
		totient, ok := impl.TotientOf(n)
		wantFail(t, of("TotientOf", n), totient, ok)
		sign, ok := impl.MoebiusOf(n)
		wantFail(t, of("MoebiusOf", n), sign, ok)
		friend, ok := impl.AmicableOf(n)
		wantFail(t, of("AmicableOf", n), friend, ok)
		way, ok := impl.SumWay(n, 3)
		wantFail(t, of("SumWay", n), way, ok)
	}
}

func knownDivisors() map[int][]int {
	return map[int][]int{
		1:       {1},
		2:       {1, 2},
		3:       {1, 3},
		4:       {1, 2, 4},
		5:       {1, 5},
		6:       {1, 2, 3, 6},
		7:       {1, 7},
		8:       {1, 2, 4, 8},
		9:       {1, 3, 9},
		10:      {1, 2, 5, 10},
		12:      {1, 2, 3, 4, 6, 12},
		16:      {1, 2, 4, 8, 16},
		24:      {1, 2, 3, 4, 6, 8, 12, 24},
		28:      {1, 2, 4, 7, 14, 28},
		30:      {1, 2, 3, 5, 6, 10, 15, 30},
		36:      {1, 2, 3, 4, 6, 9, 12, 18, 36},
		49:      {1, 7, 49},
		60:      {1, 2, 3, 4, 5, 6, 10, 12, 15, 20, 30, 60},
		64:      {1, 2, 4, 8, 16, 32, 64},
		97:      {1, 97},
		100:     {1, 2, 4, 5, 10, 20, 25, 50, 100},
		120:     {1, 2, 3, 4, 5, 6, 8, 10, 12, 15, 20, 24, 30, 40, 60, 120},
		121:     {1, 11, 121},
		210:     {1, 2, 3, 5, 6, 7, 10, 14, 15, 21, 30, 35, 42, 70, 105, 210},
		220:     {1, 2, 4, 5, 10, 11, 20, 22, 44, 55, 110, 220},
		284:     {1, 2, 4, 71, 142, 284},
		360:     {1, 2, 3, 4, 5, 6, 8, 9, 10, 12, 15, 18, 20, 24, 30, 36, 40, 45, 60, 72, 90, 120, 180, 360},
		496:     {1, 2, 4, 8, 16, 31, 62, 124, 248, 496},
		720:     {1, 2, 3, 4, 5, 6, 8, 9, 10, 12, 15, 16, 18, 20, 24, 30, 36, 40, 45, 48, 60, 72, 80, 90, 120, 144, 180, 240, 360, 720},
		961:     {1, 31, 961},
		1024:    {1, 2, 4, 8, 16, 32, 64, 128, 256, 512, 1024},
		1260:    {1, 2, 3, 4, 5, 6, 7, 9, 10, 12, 14, 15, 18, 20, 21, 28, 30, 35, 36, 42, 45, 60, 63, 70, 84, 90, 105, 126, 140, 180, 210, 252, 315, 420, 630, 1260},
		2310:    {1, 2, 3, 5, 6, 7, 10, 11, 14, 15, 21, 22, 30, 33, 35, 42, 55, 66, 70, 77, 105, 110, 154, 165, 210, 231, 330, 385, 462, 770, 1155, 2310},
		8128:    {1, 2, 4, 8, 16, 32, 64, 127, 254, 508, 1016, 2032, 4064, 8128},
		16807:   {1, 7, 49, 343, 2401, 16807},
		65536:   {1, 2, 4, 8, 16, 32, 64, 128, 256, 512, 1024, 2048, 4096, 8192, 16384, 32768, 65536},
		65537:   {1, 65537},
		99991:   {1, 99991},
		117649:  {1, 7, 49, 343, 2401, 16807, 117649},
		510511:  {1, 19, 97, 277, 1843, 5263, 26869, 510511},
		531441:  {1, 3, 9, 27, 81, 243, 729, 2187, 6561, 19683, 59049, 177147, 531441},
		524288:  {1, 2, 4, 8, 16, 32, 64, 128, 256, 512, 1024, 2048, 4096, 8192, 16384, 32768, 65536, 131072, 262144, 524288},
		970299:  {1, 3, 9, 11, 27, 33, 81, 99, 121, 243, 297, 363, 729, 891, 1089, 1331, 2673, 3267, 3993, 8019, 9801, 11979, 29403, 35937, 88209, 107811, 323433, 970299},
		994009:  {1, 997, 994009},
		999983:  {1, 999983},
		999997:  {1, 757, 1321, 999997},
		1000000: {1, 2, 4, 5, 8, 10, 16, 20, 25, 32, 40, 50, 64, 80, 100, 125, 160, 200, 250, 320, 400, 500, 625, 800, 1000, 1250, 1600, 2000, 2500, 3125, 4000, 5000, 6250, 8000, 10000, 12500, 15625, 20000, 25000, 31250, 40000, 50000, 62500, 100000, 125000, 200000, 250000, 500000, 1000000},
	}
}

func TestDivisorsOf(t *testing.T) {
	for n, want := range knownDivisors() {
		got, ok := impl.DivisorsOf(n)
		wantValue(t, of("DivisorsOf", n), got, ok, want)
	}
}

// kinds are the first thirty numbers of the table of each kind.
func kinds() map[int][]int {
	return map[int][]int{
		impl.KindOne:     slices.Repeat([]int{1}, 30),
		impl.KindSelf:    upTo(1, 30),
		impl.KindCount:   {1, 2, 2, 3, 2, 4, 2, 4, 3, 4, 2, 6, 2, 4, 4, 5, 2, 6, 2, 6, 4, 4, 2, 8, 3, 4, 4, 6, 2, 8},
		impl.KindSum:     {1, 3, 4, 7, 6, 12, 8, 15, 13, 18, 12, 28, 14, 24, 24, 31, 18, 39, 20, 42, 32, 36, 24, 60, 31, 42, 40, 56, 30, 72},
		impl.KindTotient: {1, 1, 2, 2, 4, 2, 6, 4, 6, 4, 10, 4, 12, 6, 8, 8, 16, 6, 18, 8, 12, 10, 22, 8, 20, 12, 18, 12, 28, 8},
		impl.KindSign:    {1, -1, -1, 0, -1, 1, -1, 0, 0, 1, -1, 0, -1, 1, 1, 0, -1, 0, -1, 0, 1, 1, -1, 0, 0, 1, 0, 0, -1, -1},
		impl.KindUnit:    unitOf(30),
	}
}

// unitOf returns 1 and as many 0 behind it as make count numbers together.
func unitOf(count int) []int { return append([]int{1}, make([]int, count-1)...) }

func TestKindsAreNumbered(t *testing.T) {
	got := []int{impl.KindOne, impl.KindSelf, impl.KindCount, impl.KindSum, impl.KindTotient, impl.KindSign, impl.KindUnit, impl.MaxTable}
	wantValue(t, "the kinds and MaxTable", got, true, []int{0, 1, 2, 3, 4, 5, 6, 200})
}

// tableOf returns the table of a kind, which is to be one.
func tableOf(t *testing.T, kind int, most int) []int {
	t.Helper()
	list, ok := impl.TableOf(kind, most)
	if !ok || len(list) != most {
		t.Fatal("no table of the kind", kind, "and", most, list)
	}
	return list
}

func TestTableOf(t *testing.T) {
	for kind, want := range kinds() {
		for most := 1; most <= 30; most++ {
			got, ok := impl.TableOf(kind, most)
			wantValue(t, of("TableOf", kind), got, ok, want[:most])
		}
	}
	far := []int{60, 64, 97, 120, 121, 128, 180, 199, 200}
	for kind, want := range [][]int{
		{1, 1, 1, 1, 1, 1, 1, 1, 1}, far, {12, 7, 2, 16, 3, 8, 18, 2, 12}, {168, 127, 98, 360, 133, 255, 546, 200, 465}, {16, 32, 96, 32, 110, 64, 48, 198, 80}, {0, 0, -1, 0, 0, 0, 0, -1, 0}, {0, 0, 0, 0, 0, 0, 0, 0, 0},
	} {
		list := tableOf(t, kind, impl.MaxTable)
		for i, n := range far {
			wantValue(t, of("TableOf MaxTable, number", n), list[n-1], true, want[i])
		}
	}
}

func TestNoTableOf(t *testing.T) {
	for kind := range 7 {
		for _, most := range []int{math.MinInt, -200, -1, 0, impl.MaxTable + 1, impl.MaxNumber, impl.MaxNumber + 1, mostDivided, math.MaxInt} {
			got, ok := impl.TableOf(kind, most)
			wantFail(t, of("TableOf", kind), got, ok)
		}
	}
	for _, kind := range []int{math.MinInt, -7, -1, 7, 8, 13, 200, math.MaxInt} {
		for _, most := range []int{-1, 0, 1, 2, 30, impl.MaxTable, impl.MaxTable + 1} {
			got, ok := impl.TableOf(kind, most)
			wantFail(t, of("TableOf", kind), got, ok)
		}
	}
}

// noTables are lists that are no tables, for their length or for one of their numbers, the first, the last or one between.
func noTables() [][]int {
	lists := [][]int{nil, {}, unitOf(impl.MaxTable + 1), make([]int, impl.MaxTable+1), slices.Repeat([]int{1}, impl.MaxTable+1), unitOf(2 * impl.MaxTable), make([]int, 100000)}
	for _, wrong := range []int{mostTabled + 1, -mostTabled - 1, mostTabled + 2, 1 << 32, 1<<32 + 1, -1 << 40, math.MinInt, math.MinInt + 1, math.MaxInt - 1, math.MaxInt} {
		lists = append(lists, []int{wrong}, []int{wrong, 0}, []int{1, wrong}, []int{-1, 0, wrong}, []int{1, 0, wrong, 0}, append(unitOf(impl.MaxTable-1), wrong))
	}
	return lists
}

// tablesAtLimits are tables with one number and with MaxTable, and with the greatest and the least number.
func tablesAtLimits() [][]int {
	return [][]int{
		{1}, {-1}, {0}, {2}, {mostTabled}, {-mostTabled}, {1, mostTabled}, {1, -mostTabled}, {-1, mostTabled}, {1, 0, mostTabled, -mostTabled}, unitOf(impl.MaxTable), make([]int, impl.MaxTable), upTo(1, impl.MaxTable),
		slices.Repeat([]int{mostTabled}, impl.MaxTable), slices.Repeat([]int{-mostTabled}, impl.MaxTable), append(unitOf(impl.MaxTable-1), -mostTabled),
	}
}

func TestTablesAtLimits(t *testing.T) {
	for _, a := range tablesAtLimits() {
		_, ok := impl.IsSpread(a)
		wantValue(t, "the last result of IsSpread", ok, true, true)
		unit := unitOf(len(a))
		got, ok := impl.OverDivisors(a, unit)
		wantValue(t, "OverDivisors of a table and KindUnit", got, ok, a)
		got, ok = impl.OverDivisors(unit, a)
		wantValue(t, "OverDivisors of KindUnit and a table", got, ok, a)
	}
}

func TestListsThatAreNoTables(t *testing.T) {
	for _, a := range noTables() {
		spread, ok := impl.IsSpread(a)
		wantFail(t, "IsSpread", spread, ok)
		got, ok := impl.UndoTable(a)
		wantFail(t, "UndoTable", got, ok)
		got, ok = impl.SumOverDivisors(a)
		wantFail(t, "SumOverDivisors", got, ok)
		for _, other := range [][]int{a, make([]int, len(a)), append([]int{1}, make([]int, len(a))...), {1}, nil} {
			got, ok = impl.OverDivisors(a, other)
			wantFail(t, "OverDivisors", got, ok)
			got, ok = impl.OverDivisors(other, a)
			wantFail(t, "OverDivisors", got, ok)
		}
	}
}

// product are two tables and their product over divisors, nil if that is no table.
type product struct{ a, b, over []int }

// smallProducts have numbers of any sign, and kinds.
func smallProducts() []product {
	return []product{
		{[]int{3}, []int{5}, []int{15}}, {[]int{0}, []int{5}, []int{0}}, {[]int{-3}, []int{5}, []int{-15}}, {[]int{2, 3}, []int{5, 7}, []int{10, 29}}, {[]int{0, 1}, []int{0, 1}, []int{0, 0}}, {[]int{0, 2, 0, 0}, []int{0, 3, 0, 0}, []int{0, 0, 0, 6}},
		{[]int{2, -3, 5, 7}, []int{11, 13, -17, 19}, []int{22, -7, 21, 76}}, {[]int{1, 2, 3, 4, 5, 6}, []int{-6, 5, -4, 3, -2, 1}, []int{-6, -7, -22, -11, -32, -28}},
		{kinds()[impl.KindOne][:16], kinds()[impl.KindOne][:16], kinds()[impl.KindCount][:16]}, {kinds()[impl.KindSign], kinds()[impl.KindOne], kinds()[impl.KindUnit]},
		{kinds()[impl.KindSelf][:16], kinds()[impl.KindSelf][:16], []int{1, 4, 6, 12, 10, 24, 14, 32, 27, 40, 22, 72, 26, 56, 60, 80}},
		{kinds()[impl.KindCount][:16], kinds()[impl.KindSum][:16], []int{1, 5, 6, 16, 8, 30, 10, 42, 24, 40, 14, 96, 16, 50, 48, 99}},
		{kinds()[impl.KindTotient][:16], kinds()[impl.KindSign][:16], []int{1, 0, 1, 1, 3, 0, 5, 2, 4, 0, 9, 1, 11, 0, 3, 4}},
		{kinds()[impl.KindSum][:16], kinds()[impl.KindSum][:16], []int{1, 6, 8, 23, 12, 48, 16, 72, 42, 72, 24, 184, 28, 96, 96, 201}},
	}
}

// greatProducts have numbers of just the size that a table may have, and just greater ones; some have greater products and sums on the way.
func greatProducts() []product {
	at, low := mostTabled, -mostTabled
	return []product{
		{[]int{at}, []int{1}, []int{at}}, {[]int{at}, []int{-1}, []int{low}}, {[]int{1000}, []int{1000}, []int{at}}, {[]int{1000}, []int{-1000}, []int{low}}, {[]int{low}, []int{-1}, []int{at}}, {[]int{at}, []int{0}, []int{0}},
		{[]int{1000}, []int{1001}, nil}, {[]int{-1001}, []int{1000}, nil}, {[]int{101}, []int{9901}, nil}, {[]int{-101}, []int{9901}, nil}, {[]int{at}, []int{2}, nil}, {[]int{at}, []int{at}, nil}, {[]int{at}, []int{low}, nil},
		{[]int{1, at - 1}, []int{1, 1}, []int{1, at}}, {[]int{1, at}, []int{1, 1}, nil}, {[]int{1, -at + 1}, []int{1, -1}, []int{1, low}}, {[]int{1, low}, []int{1, -1}, nil}, {[]int{1, at}, []int{1, low}, []int{1, 0}},
		{[]int{1, at, 0}, []int{1, 1, 0}, nil}, {[]int{1, at, 0}, []int{1, -1, 0}, []int{1, at - 1, 0}}, {[]int{0, 1000, 0, 0}, []int{0, 1000, 0, 0}, []int{0, 0, 0, at}}, {[]int{0, 1000, 0, 1}, []int{1, 1000, 0, 0}, nil},
		{[]int{0, 0, 0, 1}, []int{at, 0, 0, 0}, []int{0, 0, 0, at}}, {[]int{0, 0, 0, 2}, []int{at, 0, 0, 0}, nil}, {[]int{0, at, 0}, []int{0, at, at}, []int{0, 0, 0}}, {[]int{0, at, 0, 0}, []int{0, at, 0, 0}, nil},
		// 1000 times 1000000, and as much less.
		{[]int{1000, at}, []int{1000, low}, []int{at, 0}}, {[]int{1000, at}, []int{1000, low + 1}, []int{at, 1000}}, {[]int{1000, at, 0}, []int{1000, low + 1000, 7}, []int{at, at, 7000}}, {[]int{1000, at}, []int{1000, low + 1001}, nil},
		{[]int{1000, low}, []int{1000, at - 1000}, []int{at, low}}, {[]int{1000, low}, []int{1000, at - 1001}, nil},
		{[]int{0, 1000, at, 0, 0, 0}, []int{0, -1000, at, 0, 0, 0}, []int{0, 0, 0, low, 0, 0}}, {[]int{0, 1000, at, 0, 0, 0}, []int{0, -1000, at - 1, 0, 0, 0}, []int{0, 0, 0, low, 0, -1000}},
		{[]int{0, 1000, at, 0, 0, 0}, []int{0, -1000, at - 1001, 0, 0, 0}, nil},
		{[]int{0, 1000, 0, at, 0, 0, 0, 0}, []int{0, 1000, 0, low, 0, 0, 0, 0}, []int{0, 0, 0, at, 0, 0, 0, 0}}, {[]int{0, 1000, 0, at, 0, 0, 0, 1}, []int{1, 1000, 0, low, 0, 0, 0, 0}, nil},
		// Three and more of them.
		{[]int{0, at / 2, at, 0, at}, []int{1, 1, 1, 1, 0}, []int{0, at / 2, at, at / 2, at}}, {[]int{0, at / 2, 0, at / 2}, []int{1, 1, 1, 1}, []int{0, at / 2, 0, at}}, {[]int{0, at / 2, 0, at/2 + 1}, []int{1, 1, 1, 1}, nil},
		{[]int{0, at, low, 0, 0, 0}, []int{1, 1, 1, 1, 1, 0}, []int{0, at, low, at, 0, 0}}, {[]int{0, at, low, -at, 0, 0}, []int{1, 1, 1, 0, 0, 0}, []int{0, at, low, 0, 0, 0}},
	}
}

func TestOverDivisors(t *testing.T) {
	for _, c := range append(smallProducts(), greatProducts()...) {
		for _, pair := range [][2][]int{{c.a, c.b}, {c.b, c.a}} {
			got, ok := impl.OverDivisors(pair[0], pair[1])
			if c.over == nil {
				wantFail(t, "OverDivisors of "+wordsOf(pair[0])+" and "+wordsOf(pair[1]), got, ok)
			} else {
				wantValue(t, "OverDivisors of "+wordsOf(pair[0])+" and "+wordsOf(pair[1]), got, ok, c.over)
			}
		}
	}
}

// TestLastProducts has the last numbers of the longest tables: 199, 200 and squares among them.
func TestLastProducts(t *testing.T) {
	for d := 1; d <= impl.MaxTable; d++ {
		a := make([]int, impl.MaxTable)
		a[d-1] = 1000
		for _, k := range []int{1, 2, impl.MaxTable / d, impl.MaxTable/d + 1} {
			if k > impl.MaxTable {
				continue
			}
			for _, number := range []int{1000, 1001} {
				b := make([]int, impl.MaxTable)
				b[k-1] = number
				got, ok := impl.OverDivisors(a, b)
				if d*k <= impl.MaxTable && number > 1000 {
					wantFail(t, of("OverDivisors with a number at", d), got, ok)
					continue
				}
				want := make([]int, impl.MaxTable)
				if d*k <= impl.MaxTable {
					want[d*k-1] = 1000 * number
				}
				wantValue(t, of("OverDivisors with a number at", d), got, ok, want)
			}
		}
	}
}

func TestTablesOfDifferentLengths(t *testing.T) {
	for _, pair := range [][2]int{{1, 2}, {2, 3}, {5, 6}, {1, impl.MaxTable}, {impl.MaxTable - 1, impl.MaxTable}, {100, 200}, {impl.MaxTable, impl.MaxTable + 1}} {
		for _, kind := range []int{impl.KindOne, impl.KindUnit, impl.KindSelf} {
			long := append(tableOf(t, kind, impl.MaxTable), 0)
			got, ok := impl.OverDivisors(long[:pair[0]], long[:pair[1]])
			wantFail(t, "OverDivisors with a longer second table", got, ok)
			got, ok = impl.OverDivisors(long[:pair[1]], long[:pair[0]])
			wantFail(t, "OverDivisors with a longer first table", got, ok)
		}
	}
}

// undone is a table, and that whose product over divisors with it is KindUnit, nil if there is none.
type undone struct{ a, undo []int }

func knownUndone() []undone {
	return []undone{
		{[]int{1}, []int{1}}, {[]int{-1}, []int{-1}}, {[]int{1, 5}, []int{1, -5}}, {[]int{-1, 5}, []int{-1, -5}}, {[]int{1, 7, -4, 0, 2, 9}, []int{1, -7, 4, 49, -2, -65}}, {[]int{-1, 2, 3, -4, 5, -6}, []int{-1, -2, -3, 0, -5, -6}},
		{[]int{-1, 1, 1, 1, 1, 1, 1, 1, 1, 1, 1, 1}, []int{-1, -1, -1, -2, -1, -3, -1, -4, -2, -3, -1, -8}}, {unitOf(impl.MaxTable), unitOf(impl.MaxTable)}, {kinds()[impl.KindOne], kinds()[impl.KindSign]}, {kinds()[impl.KindSign], kinds()[impl.KindOne]},
		{upTo(1, 24), []int{1, -2, -3, 0, -5, 6, -7, 0, 0, 10, -11, 0, -13, 14, 15, 0, -17, 0, -19, 0, 21, 22, -23, 0}},
		{kinds()[impl.KindCount][:24], []int{1, -2, -2, 1, -2, 4, -2, 0, 1, 4, -2, -2, -2, 4, 4, 0, -2, -2, -2, -2, 4, 4, -2, 0}},
		{kinds()[impl.KindSum][:24], []int{1, -3, -4, 2, -6, 12, -8, 0, 3, 18, -12, -8, -14, 24, 24, 0, -18, -9, -20, -12, 32, 36, -24, 0}},
		{kinds()[impl.KindTotient][:24], []int{1, -1, -2, -1, -4, 2, -6, -1, -2, 4, -10, 2, -12, 6, 8, -1, -16, 2, -18, 4, 12, 10, -22, 2}},
	}
}

// greatUndone lead to numbers of just the size that a table may have, and to greater ones.
func greatUndone() []undone {
	at, low := mostTabled, -mostTabled
	return []undone{
		{[]int{1, at}, []int{1, low}}, {[]int{1, low}, []int{1, at}}, {[]int{-1, at}, []int{-1, low}}, {[]int{-1, low, at}, []int{-1, at, low}}, {[]int{1, 1000, 0, 0}, []int{1, -1000, 0, at}}, {[]int{-1, 1000, 0, 0}, []int{-1, -1000, 0, low}},
		{[]int{1, 1000, 0, -1}, nil}, {[]int{-1, 1000, 0, 1}, nil}, {[]int{1, 1001, 0}, []int{1, -1001, 0}}, {[]int{1, 1001, 0, 0}, nil}, {[]int{1, 1001, 0, 2001}, []int{1, -1001, 0, at}}, {[]int{1, 1001, 0, 2000}, nil},
		{[]int{1, 1000, 0, at, 0, 0, 0}, []int{1, -1000, 0, 0, 0, 0, 0}}, {[]int{1, 1000, 0, at, 0, 0, 0, 0}, nil}, {[]int{1, 1000, 1000, 0, 0, at}, []int{1, -1000, -1000, at, 0, at}}, {[]int{1, 1000, 1000, 0, 0, at - 1}, nil},
		{[]int{1, 1000, -1000, 0, 0, low}, []int{1, -1000, 1000, at, 0, low}}, {[]int{1, 1000, -1000, 0, 0, low + 1}, nil}, {[]int{1, at, at, 0}, nil}, {[]int{1, at, at}, []int{1, low, low}}, {[]int{1, 1, at, 0, 0, at}, []int{1, -1, low, 1, 0, at}},
	}
}

func TestUndoTable(t *testing.T) {
	for _, c := range append(knownUndone(), greatUndone()...) {
		got, ok := impl.UndoTable(c.a)
		if len(c.undo) == 0 {
			wantFail(t, "UndoTable of "+wordsOf(c.a), got, ok)
		} else {
			wantValue(t, "UndoTable of "+wordsOf(c.a), got, ok, c.undo)
		}
	}
}

func TestUndoTableBegins(t *testing.T) {
	for _, first := range []int{0, 2, -2, 3, 10, -10, mostTabled, -mostTabled} {
		for _, rest := range [][]int{nil, {0}, {1}, {1, 2, 3}, make([]int, impl.MaxTable-1)} {
			got, ok := impl.UndoTable(append([]int{first}, rest...))
			wantFail(t, of("UndoTable with first number", first), got, ok)
		}
	}
}

// TestPowersUndone has numbers that grow with each power of 2, until they are too great, even for an int, or would be small again there.
func TestPowersUndone(t *testing.T) {
	for _, c := range []struct{ number, longest int }{
		{2, 200}, {-7, 200}, {10, 127}, {-10, 127}, {11, 63}, {15, 63}, {16, 31}, {31, 31}, {32, 15}, {100, 15}, {101, 7}, {1000, 7}, {1001, 3}, {1 << 13, 3}, {1 << 16, 3}, {-1 << 19, 3}, {mostTabled, 3}, {-mostTabled, 3},
	} {
		for _, first := range []int{1, -1} {
			for most := 2; most <= impl.MaxTable; most++ {
				a := make([]int, most)
				a[0], a[1] = first, c.number
				got, ok := impl.UndoTable(a)
				if most > c.longest {
					wantFail(t, of("UndoTable with", c.number), got, ok)
					continue
				}
				want := make([]int, most)
				for n, power := 1, first; n <= most; n *= 2 {
					want[n-1] = power
					power *= -c.number * first
				}
				wantValue(t, of("UndoTable with", c.number), got, ok, want)
			}
		}
	}
}

func TestSumOverDivisors(t *testing.T) {
	for _, c := range []struct{ a, sums []int }{
		{[]int{1}, []int{1}}, {[]int{-7}, []int{-7}}, {[]int{0, 0, 0}, []int{0, 0, 0}}, {[]int{1, 1, 2, 2, 4, 2}, []int{1, 2, 3, 4, 5, 6}}, {kinds()[impl.KindOne], kinds()[impl.KindCount]}, {kinds()[impl.KindSelf], kinds()[impl.KindSum]},
		{kinds()[impl.KindTotient], upTo(1, 30)}, {kinds()[impl.KindSign], unitOf(30)}, {unitOf(impl.MaxTable), slices.Repeat([]int{1}, impl.MaxTable)}, {[]int{5, -3, 2, 8, 0, 1}, []int{5, 2, 7, 10, 5, 5}},
		{[]int{mostTabled}, []int{mostTabled}}, {[]int{1, mostTabled - 1}, []int{1, mostTabled}}, {[]int{-1, 1 - mostTabled}, []int{-1, -mostTabled}}, {[]int{mostTabled, -mostTabled}, []int{mostTabled, 0}},
		{[]int{0, mostTabled, mostTabled, 0, 0, -mostTabled}, []int{0, mostTabled, mostTabled, mostTabled, 0, mostTabled}},
	} {
		got, ok := impl.SumOverDivisors(c.a)
		wantValue(t, "SumOverDivisors of "+wordsOf(c.a), got, ok, c.sums)
	}
	for _, a := range [][]int{{1, mostTabled}, {-1, -mostTabled}, {0, mostTabled, 0, 1}, {0, mostTabled, mostTabled, 0, 0, 0}, {0, mostTabled, mostTabled, 0, 0, 1 - mostTabled}, slices.Repeat([]int{mostTabled}, impl.MaxTable)} {
		got, ok := impl.SumOverDivisors(a)
		wantFail(t, "SumOverDivisors of "+wordsOf(a), got, ok)
	}
}

func TestIsSpread(t *testing.T) {
	at := mostTabled
	for _, a := range [][]int{
		{1}, {1, 0}, {1, 5}, {1, at}, {1, -at}, {1, 2, 3, 4, 5}, {1, 7, -2, 100, 0}, {1, 7, -2, 100, 0, -14}, {1, 0, 9, 3, 8, 0}, {1, 1000, 1000, 3, 0, at}, {1, -1000, 1000, 3, 0, -at, 5, 8, 9, 0, 11, 3000},
		unitOf(impl.MaxTable), slices.Repeat([]int{1}, impl.MaxTable), upTo(1, impl.MaxTable), {1, at, at, at, at}, {1, 1, at, 1, 1, at, 1, 1, 1, 1, 1, at},
	} {
		got, ok := impl.IsSpread(a)
		wantValue(t, "IsSpread of "+wordsOf(a), got, ok, true)
	}
	for _, a := range [][]int{
		{0}, {2}, {-1}, {at}, {-at}, {0, 0, 0}, {-1, 5}, {2, 4, 6, 8, 10, 12}, {1, 7, -2, 100, 0, 14}, {1, 2, 3, 4, 5, 5}, {1, 2, 3, 4, 5, 0}, {1, 0, 9, 3, 8, 1}, {1, 0, 0, 0, 0, 1}, {1, 1000, 1001, 3, 0, at}, {1, at, at, 0, 0, at}, {1, at, at, 0, 0, 0},
		{1, at, at, 0, 0, -at}, make([]int, impl.MaxTable), slices.Repeat([]int{-1}, impl.MaxTable), upTo(0, impl.MaxTable-1), upTo(2, impl.MaxTable+1), {1, 1, 1, 2, 1, 1, 1, 1, 1, 1, 1, 1},
	} {
		got, ok := impl.IsSpread(a)
		wantValue(t, "IsSpread of "+wordsOf(a), got, ok, false)
	}
}

// TestNearlySpread changes one number of a spread table: it is spread still exactly if that is the number of a power of a prime that no other product needs.
func TestNearlySpread(t *testing.T) {
	free := []int{101, 103, 107, 109, 113, 121, 125, 127, 128, 131, 137, 139, 149, 151, 157, 163, 167, 169, 173, 179, 181, 191, 193, 197, 199}
	for _, kind := range []int{impl.KindOne, impl.KindSelf, impl.KindCount, impl.KindSum, impl.KindTotient} {
		for n := 1; n <= impl.MaxTable; n++ {
			for _, by := range []int{1, -1, 1000} {
				a := tableOf(t, kind, impl.MaxTable)
				a[n-1] += by
				got, ok := impl.IsSpread(a)
				wantValue(t, of("IsSpread with another number for", n), got, ok, slices.Contains(free, n))
			}
		}
	}
}

func TestPerfectUpTo(t *testing.T) {
	for most := range impl.MaxNumber + 1 {
		got, ok := impl.PerfectUpTo(most)
		wantValue(t, of("PerfectUpTo", most), got, ok, cutAt([]int{6, 28, 496}, most))
	}
	for _, most := range []int{math.MinInt, -6, -1, impl.MaxNumber + 1, 8128, math.MaxInt} {
		got, ok := impl.PerfectUpTo(most)
		wantFail(t, of("PerfectUpTo", most), got, ok)
	}
}

func TestSumStep(t *testing.T) {
	for n, want := range map[int]int{
		1: 0, 2: 1, 3: 1, 4: 3, 6: 6, 12: 16, 28: 28, 95: 25, 119: 25, 220: 284, 284: 220, 496: 496, 562: 284, 1184: 1210, 8128: 8128, 12496: 14288, 617430: 999978, 823312: 999984, 920992: 1000004,
		997920: 3392928, 999983: 1, 998104: 1043096, mostDivided: 1480437,
	} {
		got, ok := impl.SumStep(n)
		wantValue(t, of("SumStep", n), got, ok, want)
	}
}

// knownWays are ways of as many steps as can be made, up to 20: to 0, to a number greater than 1000000, and such as come again or do not end.
func knownWays() [][]int {
	return [][]int{
		{1, 0}, {2, 1, 0}, {3, 1, 0}, {4, 3, 1, 0}, {12, 16, 15, 9, 4, 3, 1, 0}, {14, 10, 8, 7, 1, 0}, {30, 42, 54, 66, 78, 90, 144, 259, 45, 33, 15, 9, 4, 3, 1, 0}, {604, 460, 548, 418, 302, 154, 134, 70, 74, 40, 50, 43, 1, 0}, {999983, 1, 0},
		{624, 1112, 988, 972, 1576, 1394, 874, 566, 286, 218, 112, 136, 134, 70, 74, 40, 50, 43, 1, 0}, {760, 1040, 1564, 1460, 1648, 1576, 1394, 874, 566, 286, 218, 112, 136, 134, 70, 74, 40, 50, 43, 1, 0},
		{680, 940, 1076, 814, 554, 280, 440, 640, 890, 730, 602, 454, 230, 202, 104, 106, 56, 64, 63, 41, 1},
		{mostDivided, 1480437}, {720720, 2529072}, {920992, 1000004}, {840, 2040, 4440, 9240, 25320, 51000, 117480, 271320, 765480, 1531320}, {11880, 31320, 76680, 182520, 476280, 1391040},
		{564, 780, 1572, 2124, 3336, 5064, 7656, 13944, 26376, 49464, 88536, 187944, 295896, 443904, 812340, 1652304},
		{1476, 2346, 2838, 3498, 4278, 4938, 4950, 9558, 12222, 18354, 27726, 27738, 35910, 79290, 127098, 161190, 274410, 439290, 732870, 1288890},
		{1878, 1890, 3870, 6426, 10854, 13830, 19434, 20886, 21606, 25098, 26742, 26754, 40446, 63234, 77406, 110754, 171486, 253458, 295740, 647748, 1077612},
		{1290, 1878, 1890, 3870, 6426, 10854, 13830, 19434, 20886, 21606, 25098, 26742, 26754, 40446, 63234, 77406, 110754, 171486, 253458, 295740, 647748},
		{138, 150, 222, 234, 312, 528, 960, 2088, 3762, 5598, 6570, 10746, 13254, 13830, 19434, 20886, 21606, 25098, 26742, 26754, 40446},
		{276, 396, 696, 1104, 1872, 3770, 3790, 3050, 2716, 2772, 5964, 10164, 19628, 19684, 22876, 26404, 30044, 33796, 38780, 54628, 54684},
		{14316, 19116, 31704, 47616, 83328, 177792, 295488, 629072, 589786, 294896, 358336, 418904, 366556, 274924, 275444, 243760, 376736, 381028, 285778, 152990, 122410},
		slices.Repeat([]int{6}, 21), slices.Repeat([]int{8128}, 21), append([]int{25}, slices.Repeat([]int{6}, 20)...), append([]int{95, 25}, slices.Repeat([]int{6}, 19)...),
		append(slices.Repeat([]int{220, 284}, 10), 220), append([]int{562}, slices.Repeat([]int{284, 220}, 10)...), append(slices.Repeat([]int{12496, 14288, 15472, 14536, 14264}, 4), 12496),
	}
}

func TestSumWay(t *testing.T) {
	for _, want := range knownWays() {
		for steps := range 21 {
			got, ok := impl.SumWay(want[0], steps)
			wantValue(t, of("SumWay", want[0]), got, ok, want[:min(steps+1, len(want))])
		}
		for _, steps := range []int{math.MinInt, -20, -1, 21, 22, 600, math.MaxInt - 1, math.MaxInt} {
			got, ok := impl.SumWay(want[0], steps)
			wantFail(t, of("SumWay", want[0]), got, ok)
		}
	}
	for _, n := range noDivided() {
		for _, steps := range []int{-1, 0, 1, 20, 21} {
			got, ok := impl.SumWay(n, steps)
			wantFail(t, of("SumWay", n), got, ok)
		}
	}
}

// amicableOnes are the pairs of which at least one number is at most 1000000.
func amicableOnes() [][2]int {
	return [][2]int{
		{220, 284}, {1184, 1210}, {2620, 2924}, {5020, 5564}, {6232, 6368}, {10744, 10856}, {12285, 14595}, {17296, 18416}, {63020, 76084}, {66928, 66992}, {67095, 71145}, {69615, 87633}, {79750, 88730}, {100485, 124155}, {122265, 139815},
		{122368, 123152}, {141664, 153176}, {142310, 168730}, {171856, 176336}, {176272, 180848}, {185368, 203432}, {196724, 202444}, {280540, 365084}, {308620, 389924}, {319550, 430402}, {356408, 399592}, {437456, 455344}, {469028, 486178},
		{503056, 514736}, {522405, 525915}, {600392, 669688}, {609928, 686072}, {624184, 691256}, {635624, 712216}, {643336, 652664}, {667964, 783556}, {726104, 796696}, {802725, 863835}, {879712, 901424}, {898216, 980984}, {947835, 1125765},
		{998104, 1043096},
	}
}

// TestAmicableOf has pairs, of two of which one number is greater than may be asked for.
func TestAmicableOf(t *testing.T) {
	for _, pair := range amicableOnes() {
		got, ok := impl.AmicableOf(pair[0])
		wantValue(t, of("AmicableOf", pair[0]), got, ok, pair[1])
		back, ok := impl.AmicableOf(pair[1])
		if pair[1] > mostDivided {
			wantFail(t, of("AmicableOf", pair[1]), back, ok)
		} else {
			wantValue(t, of("AmicableOf", pair[1]), back, ok, pair[0])
		}
	}
}

// TestNotAmicable has 1, primes, perfect numbers, such as lead to perfect or amicable ones, and such as come again later.
func TestNotAmicable(t *testing.T) {
	for _, n := range []int{1, 2, 3, 4, 5, 6, 12, 25, 28, 30, 95, 119, 143, 219, 221, 283, 285, 496, 562, 8128, 12496, 14288, 14316, 15472, 276, 604, 720720, 999983, 997920, mostDivided - 1, mostDivided} {
		got, ok := impl.AmicableOf(n)
		wantFail(t, of("AmicableOf", n), got, ok)
	}
}

func TestRecordsUpTo(t *testing.T) {
	for most := range impl.MaxNumber + 1 {
		got, ok := impl.RecordsUpTo(most)
		wantValue(t, of("RecordsUpTo", most), got, ok, cutAt([]int{1, 2, 4, 6, 12, 24, 36, 48, 60, 120, 180, 240, 360}, most))
	}
	for _, most := range []int{math.MinInt, -12, -1, impl.MaxNumber + 1, 720, math.MaxInt} {
		got, ok := impl.RecordsUpTo(most)
		wantFail(t, of("RecordsUpTo", most), got, ok)
	}
}

func TestCoprimePairs(t *testing.T) {
	for n, want := range map[int]int{
		1: 1, 2: 3, 3: 7, 4: 11, 5: 19, 6: 23, 10: 63, 12: 91, 30: 555, 50: 1547, 97: 5803, 100: 6087, 101: 6287, 200: 24463, 256: 39895, 360: 78907, 500: 152231, 599: 218679, impl.MaxNumber: 218999,
	} {
		got, ok := impl.CoprimePairs(n)
		wantValue(t, of("CoprimePairs", n), got, ok, want)
	}
	for _, n := range []int{math.MinInt, -5, -1, 0, impl.MaxNumber + 1, 1000, mostDivided, math.MaxInt} {
		got, ok := impl.CoprimePairs(n)
		wantFail(t, of("CoprimePairs", n), got, ok)
	}
}

func TestExampleOfDivisors(t *testing.T) {
	list, ok := impl.DivisorsOf(12)
	wantValue(t, "DivisorsOf", list, ok, []int{1, 2, 3, 4, 6, 12})
	count, ok := impl.CountDivisors(12)
	wantValue(t, "CountDivisors", count, ok, 6)
	sum, ok := impl.SumDivisors(12)
	wantValue(t, "SumDivisors", sum, ok, 28)
	totient, ok := impl.TotientOf(12)
	wantValue(t, "TotientOf", totient, ok, 4)
	sign, ok := impl.MoebiusOf(12)
	wantValue(t, "MoebiusOf", sign, ok, 0)
	sums, ok := impl.SumOverDivisors(tableOf(t, impl.KindTotient, 6))
	wantValue(t, "SumOverDivisors", sums, ok, []int{1, 2, 3, 4, 5, 6})
	undo, ok := impl.UndoTable(tableOf(t, impl.KindOne, 12))
	wantValue(t, "UndoTable", undo, ok, tableOf(t, impl.KindSign, 12))
	perfect, ok := impl.PerfectUpTo(500)
	wantValue(t, "PerfectUpTo", perfect, ok, []int{6, 28, 496})
	friend, ok := impl.AmicableOf(220)
	wantValue(t, "AmicableOf", friend, ok, 284)
}
