package tests

// Promise 5: open patterns leave a remainder of each prime, and places are as many as told.

import (
	"math"
	"slices"
	"testing"

	"loop.example/g01235/impl"
)

// firstSix are the primes of chapter 5.
func firstSix() []int { return firstTwelve()[:6] }

// noPrimesTold are numbers that are none of the first six primes; some are others.
func noPrimesTold() []int {
	return []int{-13, -3, -2, -1, 0, 1, 4, 6, 8, 9, 10, 12, 14, 15, 16, 17, 19, 23, 26, 29, 37, 59, 61, 30030}
}

// eightOpen is an open pattern of MaxOffsets, and the narrowest one.
func eightOpen() []int { return []int{0, 2, 6, 8, 12, 18, 20, 26} }

// patternsAtLimits have one offset or MaxOffsets, or a width of MaxWidth.
func patternsAtLimits() [][]int {
	return [][]int{{0}, {0, 1}, {0, impl.MaxWidth}, {0, 59, impl.MaxWidth}, {0, 1, 2, 3, 4, 5, 6, 7}, {0, 54, 55, 56, 57, 58, 59, impl.MaxWidth}, eightOpen(), {0, 2, 6, 8, 12, 18, 26, impl.MaxWidth}}
}

// noPatterns are lists that are none: without a number, with a first one that is not 0, not increasing, with numbers less than 0, too many or too great.
func noPatterns() [][]int {
	return [][]int{
		nil, {}, {1}, {2}, {-1}, {60}, {1, 2}, {2, 4, 6}, {1, 0}, {-2, 0}, {-2, 0, 2}, {-2, 2}, {0, 0}, {0, 0, 2}, {0, 2, 2}, {0, 2, 2, 6}, {0, 2, 6, 6},
		{0, 2, 1}, {0, 4, 2}, {0, 2, 6, 4}, {0, 6, 2, 8}, {0, 2, 0}, {0, -1}, {0, -2, 4}, {0, 2, -4}, {0, 60, 2}, {0, 2, 6, 8, 12, 18, 26, 20},
		{0, 61}, {0, 62}, {0, 2, 61}, {0, 60, 61}, {0, 1000}, {0, 61, 2}, {0, 54, 55, 56, 57, 58, 59, 61},
		upTo(0, 8), {0, 2, 6, 8, 12, 18, 20, 26, 30}, {0, 52, 54, 55, 56, 57, 58, 59, 60}, upTo(0, 60), make([]int, 8), make([]int, 9),
		{0, math.MaxInt}, {0, math.MinInt}, {math.MinInt}, {math.MaxInt}, {math.MinInt, 0}, {0, 2, math.MaxInt}, {0, math.MaxInt, 2}, {0, 2, math.MinInt}, {0, 1 << 32}, {1 << 32, 1<<32 + 2},
	}
}

func TestIsPattern(t *testing.T) {
	for _, offsets := range append(patternsAtLimits(), []int{0, 2}, []int{0, 2, 4}, []int{0, 2, 6}, []int{0, 1, 3, 7, 15, 31}) {
		if !impl.IsPattern(offsets) {
			t.Error("this is a pattern:", offsets)
		}
	}
	for _, offsets := range noPatterns() {
		if impl.IsPattern(offsets) {
			t.Error("this is no pattern:", offsets)
		}
	}
}

func TestRestsOf(t *testing.T) {
	for _, c := range []struct {
		offsets []int
		want    [6][]int
	}{
		{[]int{0}, [6][]int{{0}, {0}, {0}, {0}, {0}, {0}}},
		{[]int{0, 60}, [6][]int{{0}, {0}, {0}, {0, 4}, {0, 5}, {0, 8}}},
		{[]int{0, 12}, [6][]int{{0}, {0}, {0, 2}, {0, 5}, {0, 1}, {0, 12}}},
		{[]int{0, 2, 6}, [6][]int{{0}, {0, 2}, {0, 1, 2}, {0, 2, 6}, {0, 2, 6}, {0, 2, 6}}},
		{[]int{0, 2, 4}, [6][]int{{0}, {0, 1, 2}, {0, 2, 4}, {0, 2, 4}, {0, 2, 4}, {0, 2, 4}}},
		{[]int{0, 11, 22, 33}, [6][]int{{0, 1}, {0, 1, 2}, {0, 1, 2, 3}, {0, 1, 4, 5}, {0}, {0, 7, 9, 11}}},
		{[]int{0, 13, 26, 39, 52}, [6][]int{{0, 1}, {0, 1, 2}, {0, 1, 2, 3, 4}, {0, 3, 4, 5, 6}, {0, 2, 4, 6, 8}, {0}}},
		{upTo(0, 7), [6][]int{{0, 1}, {0, 1, 2}, upTo(0, 4), upTo(0, 6), upTo(0, 7), upTo(0, 7)}},
		{eightOpen(), [6][]int{{0}, {0, 2}, {0, 1, 2, 3}, {0, 1, 2, 4, 5, 6}, {0, 1, 2, 4, 6, 7, 8, 9}, {0, 2, 5, 6, 7, 8, 12}}},
		{[]int{0, 53, 54, 55, 56, 57, 58, 60}, [6][]int{{0, 1}, {0, 1, 2}, {0, 1, 2, 3, 4}, {0, 1, 2, 4, 5, 6}, {0, 1, 2, 3, 5, 9, 10}, {0, 1, 2, 3, 4, 5, 6, 8}}},
	} {
		for k, p := range firstSix() {
			got, ok := impl.RestsOf(c.offsets, p)
			wantValue(t, "RestsOf", got, ok, c.want[k])
		}
	}
	for _, p := range noPrimesTold() {
		got, ok := impl.RestsOf([]int{0, 2, 6}, p)
		wantFail(t, "RestsOf modulo another number", got, ok)
	}
}

func openOnes() [][]int {
	return [][]int{
		{0}, {0, 2}, {0, 4}, {0, 60}, {0, 2, 6}, {0, 4, 6}, {0, 6, 12}, {0, 30, 60}, {0, 2, 6, 8}, {0, 6, 12, 18}, {0, 2, 6, 8, 12}, {0, 4, 6, 10, 12, 16}, {0, 2, 8, 12, 18, 20},
		{0, 2, 6, 8, 12, 18, 20}, {0, 2, 8, 12, 14, 18, 20}, {0, 2, 6, 8, 12, 18, 60}, eightOpen(), {0, 2, 6, 12, 14, 20, 24, 26}, {0, 2, 6, 8, 12, 18, 26, 60},
	}
}

// closedOnes has for a prime patterns that it closes, and no less one; greater ones close some of them, too.
func closedOnes() map[int][][]int {
	return map[int][][]int{
		2: {{0, 1}, {0, 3}, {0, 59}, {0, 1, 3}, {0, 1, 2}, {0, 6, 9}, {0, 30, 45}, upTo(0, 7), {0, 2, 6, 8, 12, 18, 20, 27}, {0, 53, 54, 55, 56, 57, 58, 60}},
		3: {{0, 2, 4}, {0, 4, 8}, {0, 20, 40}, {0, 2, 4, 6}, {0, 2, 4, 8}, {0, 2, 4, 6, 8}, {0, 6, 8, 16}, {0, 2, 4, 6, 10, 12, 14, 16}, {0, 2, 6, 8, 12, 18, 20, 28}, {0, 20, 22, 60}},
		5: {{0, 2, 6, 8, 14}, {0, 6, 8, 12, 14}, {0, 6, 12, 18, 24}, {0, 12, 24, 36, 48}, {0, 2, 6, 8, 12, 14}, {0, 2, 6, 8, 12, 14, 18}, {0, 4, 6, 10, 12, 16, 18}, {0, 2, 6, 8, 12, 14, 18, 20}, {0, 4, 6, 10, 12, 16, 18, 22}},
		7: {{0, 4, 6, 10, 12, 16, 22}, {0, 2, 8, 12, 18, 20, 24}, {0, 6, 10, 12, 16, 18, 22}, {0, 2, 8, 12, 14, 18, 20, 24}, {0, 4, 6, 10, 12, 16, 22, 24}, {0, 2, 8, 12, 18, 20, 24, 30}},
	}
}

func TestOpenOnes(t *testing.T) {
	for _, offsets := range openOnes() {
		open, ok := impl.IsOpen(offsets)
		wantValue(t, "IsOpen", open, ok, true)
		p, ok := impl.FirstClosing(offsets)
		wantFail(t, "FirstClosing of an open pattern", p, ok)
	}
}

func TestClosedOnes(t *testing.T) {
	for prime, list := range closedOnes() {
		for _, offsets := range list {
			open, ok := impl.IsOpen(offsets)
			wantValue(t, "IsOpen of a closed pattern", open, ok, false)
			p, ok := impl.FirstClosing(offsets)
			wantValue(t, "FirstClosing", p, ok, prime)
		}
	}
}

func TestNarrowestOpen(t *testing.T) {
	for i, want := range [][]int{{0}, {0, 2}, {0, 2, 6}, {0, 2, 6, 8}, {0, 2, 6, 8, 12}, {0, 4, 6, 10, 12, 16}} {
		got, ok := impl.NarrowestOpen(i + 1)
		wantValue(t, "NarrowestOpen", got, ok, want)
	}
	for _, n := range []int{-1, 0, 7, 8, impl.MaxWidth} {
		got, ok := impl.NarrowestOpen(n)
		wantFail(t, "NarrowestOpen beyond", got, ok)
	}
}

// openCounts tells how many open patterns of 1, 2, .. offsets have a width: there are none of odd widths, and of none that is not told.
func openCounts() []map[int]int {
	return []map[int]int{
		{0: 1},
		{2: 1, 4: 1, 6: 1, 8: 1, 10: 1, 12: 1, 14: 1, 16: 1, 18: 1, 20: 1, 22: 1, 24: 1, 26: 1, 28: 1, 30: 1},
		{6: 2, 8: 2, 10: 2, 12: 5, 14: 4, 16: 4, 18: 8, 20: 6, 22: 6, 24: 11, 26: 8, 28: 8, 30: 14},
		{8: 1, 10: 1, 12: 6, 14: 6, 16: 6, 18: 19, 20: 15, 22: 15, 24: 39, 26: 28, 28: 28, 30: 66},
		{12: 2, 14: 2, 16: 4, 18: 16, 20: 20, 22: 18, 24: 62, 26: 48, 28: 48, 30: 164},
		{16: 1, 18: 4, 20: 11, 22: 10, 24: 46, 26: 42, 28: 42, 30: 220},
	}
}

func TestCountOpen(t *testing.T) {
	for i, counts := range openCounts() {
		for width := range 31 {
			got, ok := impl.CountOpen(i+1, width)
			wantValue(t, "CountOpen", got, ok, counts[width])
			list, ok := impl.AllOpen(i+1, width)
			wantValue(t, "how many AllOpen are", len(list), ok, counts[width])
		}
	}
}

func TestOpenBeyond(t *testing.T) {
	for _, c := range [][2]int{{0, 0}, {0, 6}, {-1, 6}, {7, 20}, {7, 30}, {8, 26}, {7, 0}, {3, -1}, {1, -1}, {3, 31}, {3, 32}, {1, 31}, {2, 32}, {6, 32}, {2, impl.MaxWidth}, {2, impl.MaxWidth + 1}, {0, -1}, {7, 31}} {
		got, ok := impl.CountOpen(c[0], c[1])
		list, listed := impl.AllOpen(c[0], c[1])
		wantFail(t, "CountOpen beyond", got, ok)
		wantFail(t, "AllOpen beyond", list, listed)
	}
}

func TestAllOpen(t *testing.T) {
	for _, c := range []struct {
		n, width int
		want     [][]int
	}{
		{1, 0, [][]int{{0}}}, {1, 1, nil}, {1, 2, nil}, {1, 30, nil}, {2, 0, nil}, {2, 1, nil}, {2, 2, [][]int{{0, 2}}}, {2, 3, nil}, {2, 30, [][]int{{0, 30}}}, {3, 2, nil}, {3, 4, nil}, {3, 5, nil},
		{3, 6, [][]int{{0, 2, 6}, {0, 4, 6}}}, {3, 7, nil}, {3, 12, [][]int{{0, 2, 12}, {0, 4, 12}, {0, 6, 12}, {0, 8, 12}, {0, 10, 12}}}, {4, 6, nil}, {4, 8, [][]int{{0, 2, 6, 8}}},
		{4, 12, [][]int{{0, 2, 6, 12}, {0, 2, 8, 12}, {0, 4, 6, 12}, {0, 4, 10, 12}, {0, 6, 8, 12}, {0, 6, 10, 12}}}, {5, 12, [][]int{{0, 2, 6, 8, 12}, {0, 4, 6, 10, 12}}}, {5, 10, nil}, {5, 11, nil},
		{5, 16, [][]int{{0, 4, 6, 10, 16}, {0, 4, 6, 12, 16}, {0, 4, 10, 12, 16}, {0, 6, 10, 12, 16}}}, {6, 10, nil}, {6, 14, nil}, {6, 15, nil}, {6, 16, [][]int{{0, 4, 6, 10, 12, 16}}},
		{6, 18, [][]int{{0, 2, 6, 8, 12, 18}, {0, 2, 8, 12, 14, 18}, {0, 4, 6, 10, 16, 18}, {0, 6, 10, 12, 16, 18}}}, {6, 29, nil},
	} {
		got, ok := impl.AllOpen(c.n, c.width)
		wantValue(t, "AllOpen", got, ok, c.want)
	}
}

// TestMostOpen has the longest list that there is, which is shorter than 300.
func TestMostOpen(t *testing.T) {
	got, ok := impl.AllOpen(6, 30)
	if !ok || len(got) != 220 {
		t.Fatal("AllOpen", len(got), ok)
	}
	for i, want := range map[int][]int{0: {0, 2, 6, 8, 12, 30}, 1: {0, 2, 6, 8, 18, 30}, 110: {0, 6, 10, 12, 18, 30}, 219: {0, 18, 22, 24, 28, 30}} {
		wantValue(t, "one of AllOpen", got[i], ok, want)
	}
}

func TestBackPattern(t *testing.T) {
	for _, c := range [][2][]int{
		{{0}, {0}}, {{0, 1}, {0, 1}}, {{0, 60}, {0, 60}}, {{0, 2, 6}, {0, 4, 6}}, {{0, 4, 6}, {0, 2, 6}}, {{0, 2, 4}, {0, 2, 4}}, {{0, 1, 60}, {0, 59, 60}}, {{0, 1, 3, 7, 15, 31}, {0, 16, 24, 28, 30, 31}},
		{upTo(0, 7), upTo(0, 7)}, {{0, 1, 2, 3, 4, 5, 6, 60}, {0, 54, 55, 56, 57, 58, 59, 60}}, {eightOpen(), {0, 6, 8, 14, 18, 20, 24, 26}},
	} {
		got, ok := impl.BackPattern(c[0])
		wantValue(t, "BackPattern", got, ok, c[1])
	}
}

func TestRulesOfPattern(t *testing.T) {
	for _, c := range []struct {
		offsets []int
		primes  int
		want    string
	}{
		{[]int{0}, 0, "-"}, {upTo(0, 7), 0, "-"}, {[]int{0}, 1, "2:0"}, {[]int{0}, 6, "2:0,3:0,5:0,7:0,11:0,13:0"}, {[]int{0, 2}, 1, "2:0"}, {[]int{0, 2}, 2, "2:0,3:0,3:1"},
		{[]int{0, 2}, 3, "2:0,3:0,3:1,5:0,5:3"}, {[]int{0, 2}, 6, "2:0,3:0,3:1,5:0,5:3,7:0,7:5,11:0,11:9,13:0,13:11"}, {[]int{0, 5}, 3, "2:0,2:1,3:0,3:1,5:0"},
		{[]int{0, 2, 6}, 4, "2:0,3:0,3:1,5:0,5:3,5:4,7:0,7:1,7:5"}, {[]int{0, 2, 6}, 5, "2:0,3:0,3:1,5:0,5:3,5:4,7:0,7:1,7:5,11:0,11:5,11:9"},
		{[]int{0, 1}, 2, "2:0,2:1,3:0,3:2"}, {[]int{0, 2, 4}, 2, "2:0,3:0,3:1,3:2"}, {upTo(0, 7), 3, "2:0,2:1,3:0,3:1,3:2,5:0,5:1,5:2,5:3,5:4"},
		{[]int{0, 60}, 6, "2:0,3:0,5:0,7:0,7:3,11:0,11:6,13:0,13:5"}, {[]int{0, 7, 8, 10}, 4, "2:0,2:1,3:0,3:1,3:2,5:0,5:2,5:3,7:0,7:4,7:6"},
	} {
		got, ok := impl.RulesOfPattern(c.offsets, c.primes)
		wantValue(t, "RulesOfPattern", got, ok, readRules(t, c.want))
	}
}

// TestTooManyRules has patterns with 12 rules, which are as many as there may be, and with more.
func TestTooManyRules(t *testing.T) {
	for _, c := range []struct {
		offsets []int
		primes  int
	}{{[]int{0, 1}, 6}, {[]int{0, 17}, 6}, {[]int{0, 1, 6}, 5}, {[]int{0, 2, 6}, 5}, {[]int{0, 1, 2, 5}, 4}} {
		got, ok := impl.RulesOfPattern(c.offsets, c.primes)
		wantValue(t, "how many RulesOfPattern are", len(got), ok, impl.MaxRules)
	}
	for _, c := range []struct {
		offsets []int
		primes  int
	}{{[]int{0, 1, 3}, 5}, {[]int{0, 1, 4}, 5}, {[]int{0, 1, 2, 3}, 4}, {[]int{0, 1, 2}, 5}, {[]int{0, 2, 6}, 6}, {[]int{0, 2, 12}, 6}, {upTo(0, 7), 4}, {upTo(0, 7), 6}, {eightOpen(), 4}, {eightOpen(), 6}} {
		got, ok := impl.RulesOfPattern(c.offsets, c.primes)
		wantFail(t, "RulesOfPattern, too many", got, ok)
	}
}

// patternPlaces are a pattern and how many places it has in the period of the first 0, 1, .. primes.
type patternPlaces struct {
	offsets []int
	places  [7]int
}

func knownPlaces() []patternPlaces {
	return []patternPlaces{
		{[]int{0}, [7]int{1, 1, 2, 8, 48, 480, 5760}}, {[]int{0, 1}, [7]int{1, 0, 0, 0, 0, 0, 0}}, {[]int{0, 2}, [7]int{1, 1, 1, 3, 15, 135, 1485}}, {[]int{0, 6}, [7]int{1, 1, 2, 6, 30, 270, 2970}},
		{[]int{0, 30}, [7]int{1, 1, 2, 8, 40, 360, 3960}}, {[]int{0, 60}, [7]int{1, 1, 2, 8, 40, 360, 3960}}, {[]int{0, 2, 4}, [7]int{1, 1, 0, 0, 0, 0, 0}}, {[]int{0, 2, 6}, [7]int{1, 1, 1, 2, 8, 64, 640}},
		{[]int{0, 4, 6}, [7]int{1, 1, 1, 2, 8, 64, 640}}, {[]int{0, 2, 6, 8}, [7]int{1, 1, 1, 1, 3, 21, 189}}, {[]int{0, 2, 6, 8, 12}, [7]int{1, 1, 1, 1, 2, 12, 96}},
		{[]int{0, 4, 6, 10, 12, 16}, [7]int{1, 1, 1, 1, 1, 5, 35}}, {eightOpen(), [7]int{1, 1, 1, 1, 1, 3, 18}}, {[]int{0, 6, 12, 18, 24}, [7]int{1, 1, 2, 0, 0, 0, 0}},
		{[]int{0, 2, 8, 12, 18, 20, 24}, [7]int{1, 1, 1, 1, 0, 0, 0}}, {upTo(0, 7), [7]int{1, 0, 0, 0, 0, 0, 0}},
	}
}

func TestPlacesInPeriod(t *testing.T) {
	for _, c := range knownPlaces() {
		for primes, want := range c.places {
			got, ok := impl.PlacesInPeriod(c.offsets, primes)
			wantValue(t, "PlacesInPeriod", got, ok, want)
		}
	}
}

func TestShareOfPlaces(t *testing.T) {
	for _, c := range []struct {
		offsets []int
		shares  [7][2]int
	}{
		{[]int{0}, [7][2]int{{1, 1}, {1, 2}, {1, 3}, {4, 15}, {8, 35}, {16, 77}, {192, 1001}}},
		{[]int{0, 2}, [7][2]int{{1, 1}, {1, 2}, {1, 6}, {1, 10}, {1, 14}, {9, 154}, {9, 182}}},
		{[]int{0, 60}, [7][2]int{{1, 1}, {1, 2}, {1, 3}, {4, 15}, {4, 21}, {12, 77}, {12, 91}}},
		{[]int{0, 2, 6}, [7][2]int{{1, 1}, {1, 2}, {1, 6}, {1, 15}, {4, 105}, {32, 1155}, {64, 3003}}},
		{[]int{0, 2, 6, 8, 12}, [7][2]int{{1, 1}, {1, 2}, {1, 6}, {1, 30}, {1, 105}, {2, 385}, {16, 5005}}},
		{eightOpen(), [7][2]int{{1, 1}, {1, 2}, {1, 6}, {1, 30}, {1, 210}, {1, 770}, {3, 5005}}},
		{[]int{0, 1}, [7][2]int{{1, 1}, {0, 1}, {0, 1}, {0, 1}, {0, 1}, {0, 1}, {0, 1}}},
		{[]int{0, 2, 8, 12, 18, 20, 24}, [7][2]int{{1, 1}, {1, 2}, {1, 6}, {1, 30}, {0, 1}, {0, 1}, {0, 1}}},
	} {
		for primes, want := range c.shares {
			places, period, ok := impl.ShareOfPlaces(c.offsets, primes)
			wantValue(t, "ShareOfPlaces", [2]int{places, period}, ok, want)
		}
	}
}

func TestFirstPlaces(t *testing.T) {
	for _, c := range []struct {
		offsets      []int
		primes, most int
		want         []int
	}{
		{[]int{0, 2}, 3, 30, []int{11, 17, 29}}, {[]int{0, 2}, 3, 29, []int{11, 17, 29}}, {[]int{0, 2}, 3, 28, []int{11, 17}}, {[]int{0, 2}, 3, 60, []int{11, 17, 29, 41, 47, 59}}, {[]int{0, 2}, 3, 10, nil}, {[]int{0, 2}, 3, 0, nil},
		{[]int{0}, 2, 20, []int{1, 5, 7, 11, 13, 17, 19}}, {[]int{0}, 6, 40, []int{1, 17, 19, 23, 29, 31, 37}}, {[]int{0}, 1, 1, []int{1}}, {[]int{0}, 1, 2, []int{1}}, {[]int{0}, 0, 3, []int{1, 2, 3}}, {[]int{0}, 0, 0, nil},
		{[]int{0, 2, 6}, 4, 60, []int{11, 17, 41}}, {[]int{0, 2, 6}, 6, 130, []int{17, 41, 101, 107}}, {[]int{0, 4}, 6, 50, []int{19, 37, 43}}, {[]int{0, 60}, 2, 12, []int{1, 5, 7, 11}},
		{[]int{0, 30}, 3, 30, []int{1, 7, 11, 13, 17, 19, 23, 29}}, {[]int{0, 2, 4}, 1, 7, []int{1, 3, 5, 7}}, {[]int{0, 2, 4}, 2, impl.MaxNumber, nil}, {[]int{0, 1}, 0, 5, []int{1, 2, 3, 4, 5}}, {[]int{0, 1}, 1, impl.MaxNumber, nil},
		{[]int{0, 6, 12, 18, 24}, 2, 12, []int{1, 5, 7, 11}}, {[]int{0, 6, 12, 18, 24}, 3, impl.MaxNumber, nil}, {eightOpen(), 6, impl.MaxNumber, nil}, {upTo(0, 7), 0, impl.MaxNumber, upTo(1, impl.MaxNumber)},
	} {
		got, ok := impl.FirstPlaces(c.offsets, c.primes, c.most)
		wantValue(t, "FirstPlaces", got, ok, c.want)
	}
}

// TestCountsOfPrimes has all numbers of primes, and those beyond.
func TestCountsOfPrimes(t *testing.T) {
	for primes := -2; primes <= 9; primes++ {
		want := primes >= 0 && primes <= 6
		_, fine := impl.RulesOfPattern([]int{0, 2}, primes)
		wantValue(t, "RulesOfPattern", fine, true, want)
		_, fine = impl.PlacesInPeriod([]int{0, 2}, primes)
		wantValue(t, "PlacesInPeriod", fine, true, want)
		_, fine = impl.FirstPlaces([]int{0, 2}, primes, 30)
		wantValue(t, "FirstPlaces", fine, true, want)
		_, _, fine = impl.ShareOfPlaces([]int{0, 2}, primes)
		wantValue(t, "ShareOfPlaces", fine, true, want)
	}
}

func TestPrimePlaces(t *testing.T) {
	for _, c := range []struct {
		offsets []int
		most    int
		want    []int
	}{
		{[]int{0, 2, 6}, 20, []int{5, 11, 17}}, {[]int{0, 2, 6}, 17, []int{5, 11, 17}}, {[]int{0, 2, 6}, 16, []int{5, 11}}, {[]int{0, 2, 6}, 4, nil}, {[]int{0, 2, 6}, 0, nil},
		{[]int{0, 2, 6}, impl.MaxNumber, []int{5, 11, 17, 41, 101, 107, 191, 227, 311, 347, 461}}, {[]int{0, 2}, impl.MaxNumber, twinsUpToMost()}, {[]int{0}, 100, smallPrimes()}, {[]int{0}, 0, nil}, {[]int{0}, 1, nil}, {[]int{0}, 2, []int{2}},
		{[]int{0, 4, 6}, 100, []int{7, 13, 37, 67, 97}}, {[]int{0, 2, 6, 8}, impl.MaxNumber, []int{5, 11, 101, 191}}, {[]int{0, 2, 6, 8, 12}, impl.MaxNumber, []int{5, 11, 101}}, {[]int{0, 4, 6, 10, 12, 16}, impl.MaxNumber, []int{7, 97}},
		{[]int{0, 2, 6, 8, 12, 18, 20}, impl.MaxNumber, []int{11}}, {eightOpen(), impl.MaxNumber, []int{11}}, {eightOpen(), 10, nil},
		// Closed patterns have a prime among their numbers that closes them.
		{[]int{0, 1}, impl.MaxNumber, []int{2}}, {[]int{0, 3}, impl.MaxNumber, []int{2}}, {[]int{0, 57}, impl.MaxNumber, []int{2}}, {[]int{0, 2, 4}, impl.MaxNumber, []int{3}}, {[]int{0, 6, 12, 18, 24}, impl.MaxNumber, []int{5}},
		{[]int{0, 1, 2}, impl.MaxNumber, nil}, {[]int{0, 2, 5}, impl.MaxNumber, nil},
	} {
		got, ok := impl.PrimePlaces(c.offsets, c.most)
		wantValue(t, "PrimePlaces", got, ok, c.want)
	}
	// 641 and 659 are primes.
	for _, width := range []int{42, impl.MaxWidth} {
		got, ok := impl.PrimePlaces([]int{0, width}, impl.MaxNumber)
		if !ok || got[len(got)-1] != 599 {
			t.Error("PrimePlaces has no numbers of more than MaxNumber behind its last one", width, got)
		}
	}
}

func TestMostOfPlaces(t *testing.T) {
	for most, want := range map[int]bool{-2: false, -1: false, 0: true, 1: true, impl.MaxNumber: true, impl.MaxNumber + 1: false, 1000: false} {
		_, ok := impl.FirstPlaces([]int{0, 2}, 3, most)
		wantValue(t, "FirstPlaces", ok, true, want)
		_, ok = impl.PrimePlaces([]int{0, 2}, most)
		wantValue(t, "PrimePlaces", ok, true, want)
	}
}

func TestNumberWithRests(t *testing.T) {
	for _, c := range []struct {
		primes, rests []int
		want          int
	}{
		{nil, nil, 0}, {[]int{}, nil, 0}, {nil, []int{}, 0}, {[]int{7}, []int{6}, 6}, {[]int{7}, []int{0}, 0}, {[]int{2}, []int{1}, 1}, {[]int{13}, []int{12}, 12}, {[]int{2, 3, 5}, []int{1, 2, 3}, 23}, {[]int{3, 5, 7}, []int{2, 3, 2}, 23},
		{[]int{7, 3, 5}, []int{2, 2, 3}, 23}, {[]int{13, 2}, []int{12, 1}, 25}, {[]int{2, 13}, []int{1, 12}, 25}, {[]int{11, 13}, []int{10, 0}, 65}, {[]int{11, 13}, []int{0, 12}, 77}, {[]int{5, 2}, []int{0, 1}, 5}, {[]int{2, 5}, []int{1, 0}, 5},
		{firstSix(), []int{1, 2, 4, 6, 10, 12}, 30029}, {firstSix(), make([]int, 6), 0}, {[]int{13, 11, 7, 5, 3, 2}, make([]int, 6), 0}, {[]int{13, 11, 7, 5, 3, 2}, slices.Repeat([]int{1}, 6), 1},
		{[]int{13, 11, 7, 5, 3, 2}, []int{1, 2, 3, 4, 0, 1}, 5799}, {[]int{2, 13, 3, 11, 5, 7}, []int{1, 1, 0, 2, 4, 3}, 5799},
	} {
		got, ok := impl.NumberWithRests(c.primes, c.rests)
		wantValue(t, "NumberWithRests", got, ok, c.want)
	}
}

// TestWrongRests has remainders that are none, other numbers of them than of primes, and lists that are no different primes.
func TestWrongRests(t *testing.T) {
	for _, c := range [][2][]int{
		{{2}, {-1}}, {{2}, {2}}, {{2}, {3}}, {{13}, {13}}, {{13}, {-1}}, {{3, 5}, {3, 1}}, {{3, 5}, {1, 5}}, {{3, 5}, {-1, 1}}, {{3, 5}, {1, -1}}, {{5, 3}, {4, 3}}, {firstSix(), {1, 2, 4, 6, 10, 13}}, {firstSix(), {2, 2, 4, 6, 10, 12}},
		{{2}, nil}, {nil, {0}}, {{2, 3}, {1}}, {{2}, {1, 2}}, {{2, 3, 5}, {1, 2}}, {{2, 3}, {1, 2, 0}}, {firstSix(), make([]int, 5)}, {firstSix(), make([]int, 7)}, {firstSix()[:5], make([]int, 6)},
		{{2, 2}, {1, 1}}, {{2, 2}, {0, 1}}, {{3, 5, 3}, {1, 1, 1}}, {{13, 2, 3, 13}, make([]int, 4)}, {append(firstSix(), 2), make([]int, 7)}, {append(firstSix(), 17), make([]int, 7)},
		{{5}, {math.MaxInt}}, {{5}, {math.MinInt}}, {make([]int, 3), make([]int, 3)},
	} {
		got, ok := impl.NumberWithRests(c[0], c[1])
		wantFail(t, "NumberWithRests of wrong ones", got, ok)
	}
	for _, p := range noPrimesTold() {
		for _, primes := range [][]int{{p}, {2, p}, {p, 13}, {3, p, 5}} {
			got, ok := impl.NumberWithRests(primes, make([]int, len(primes)))
			wantFail(t, "NumberWithRests of other primes", got, ok)
			rests, ok := impl.RestsOfNumber(primes, 30)
			wantFail(t, "RestsOfNumber of other primes", rests, ok)
		}
	}
	for _, primes := range [][]int{{2, 2}, {3, 5, 3}, {13, 2, 3, 13}, append(firstSix(), 2), append(firstSix(), 17), slices.Repeat([]int{7}, 7)} {
		rests, ok := impl.RestsOfNumber(primes, 30)
		wantFail(t, "RestsOfNumber of wrong primes", rests, ok)
	}
}

func TestRestsOfNumber(t *testing.T) {
	for _, c := range []struct {
		primes []int
		n      int
		want   []int
	}{
		{nil, 5, nil}, {nil, 0, nil}, {nil, 1000000000, nil}, {[]int{2, 3, 5}, 23, []int{1, 2, 3}}, {[]int{5, 3, 2}, 23, []int{3, 2, 1}}, {firstSix(), 0, make([]int, 6)}, {firstSix(), 1, slices.Repeat([]int{1}, 6)}, {firstSix(), 30029, []int{1, 2, 4, 6, 10, 12}},
		{firstSix(), 30030, make([]int, 6)}, {firstSix(), 1000000000, []int{0, 1, 0, 6, 10, 12}}, {firstSix(), 999999999, []int{1, 0, 4, 5, 9, 11}}, {[]int{13, 2, 11}, 123456789, []int{1, 1, 5}}, {[]int{7}, 7, []int{0}}, {[]int{7}, 6, []int{6}},
	} {
		got, ok := impl.RestsOfNumber(c.primes, c.n)
		wantValue(t, "RestsOfNumber", got, ok, c.want)
	}
	for _, n := range []int{-30, -2, -1, 1000000001, 1000000002, 1 << 40} {
		for _, primes := range [][]int{nil, {2}, firstSix()} {
			got, ok := impl.RestsOfNumber(primes, n)
			wantFail(t, "RestsOfNumber beyond", got, ok)
		}
	}
}

// evenUpTo returns the even numbers low, low + 2, .., high.
func evenUpTo(low int, high int) []int {
	return slices.DeleteFunc(upTo(low, high), func(n int) bool { return n%2 != 0 })
}

func TestAddOffsets(t *testing.T) {
	for _, c := range []struct {
		offsets []int
		width   int
		want    []int
	}{
		{[]int{0}, 0, nil}, {[]int{0}, 1, nil}, {[]int{0}, 2, []int{2}}, {[]int{0}, 10, evenUpTo(2, 10)}, {[]int{0}, impl.MaxWidth, evenUpTo(2, 60)},
		{[]int{0, 2}, 0, nil}, {[]int{0, 2}, 1, nil}, {[]int{0, 2}, 2, nil}, {[]int{0, 2}, 5, nil}, {[]int{0, 2}, 6, []int{6}}, {[]int{0, 2}, 10, []int{6, 8}}, {[]int{0, 2}, impl.MaxWidth, []int{6, 8, 12, 14, 18, 20, 24, 26, 30, 32, 36, 38, 42, 44, 48, 50, 54, 56, 60}},
		{[]int{0, 6}, 1, nil}, {[]int{0, 6}, 3, []int{2}}, {[]int{0, 6}, 5, []int{2, 4}}, {[]int{0, 6}, 6, []int{2, 4}}, {[]int{0, 6}, 7, []int{2, 4}}, {[]int{0, 6}, 12, []int{2, 4, 8, 10, 12}},
		{[]int{0, 2, 6}, 6, nil}, {[]int{0, 2, 6}, 8, []int{8}}, {[]int{0, 2, 6}, 30, []int{8, 12, 14, 18, 20, 24, 26, 30}}, {[]int{0, 2, 6, 8}, 40, []int{12, 18, 20, 26, 30, 32, 36, 38}},
		{[]int{0, 4, 6, 10, 12, 16}, impl.MaxWidth, []int{24, 30, 34, 40, 42, 46, 52, 54, 60}}, {[]int{0, 2, 8, 12, 18, 20}, impl.MaxWidth, []int{6, 14, 26, 30, 32, 36, 42, 44, 48, 50, 54, 56, 60}},
		{[]int{0, 2, 6, 8, 12, 18, 20}, 25, nil}, {[]int{0, 2, 6, 8, 12, 18, 20}, 26, []int{26}}, {[]int{0, 2, 6, 8, 12, 18, 20}, impl.MaxWidth, []int{26, 30, 32, 36, 42, 48, 50, 56, 60}},
		{eightOpen(), 0, nil}, {eightOpen(), 26, nil}, {eightOpen(), impl.MaxWidth, nil}, {[]int{0, 2, 6, 8, 12, 18, 26, 60}, impl.MaxWidth, nil},
		{[]int{0, 60}, 0, nil}, {[]int{0, 60}, 59, evenUpTo(2, 58)}, {[]int{0, 60}, impl.MaxWidth, evenUpTo(2, 58)}, {[]int{0, 30, 60}, impl.MaxWidth, append(evenUpTo(2, 28), evenUpTo(32, 58)...)},
	} {
		got, ok := impl.AddOffsets(c.offsets, c.width)
		wantValue(t, "AddOffsets", got, ok, c.want)
	}
	for _, width := range []int{-2, -1, impl.MaxWidth + 1, impl.MaxWidth + 2} {
		for _, offsets := range [][]int{{0}, {0, 2, 6}, eightOpen()} {
			got, ok := impl.AddOffsets(offsets, width)
			wantFail(t, "AddOffsets beyond", got, ok)
		}
	}
}

func TestAddOffsetsOfClosed(t *testing.T) {
	for _, list := range closedOnes() {
		for _, offsets := range list {
			for _, width := range []int{0, 1, 2, 26, impl.MaxWidth} {
				got, ok := impl.AddOffsets(offsets, width)
				wantFail(t, "AddOffsets of a closed pattern", got, ok)
			}
		}
	}
}

// TestExampleOfResidues has what the document's example says.
func TestExampleOfResidues(t *testing.T) {
	open, ok := impl.IsOpen([]int{0, 2})
	wantValue(t, "IsOpen", open, ok, true)
	open, ok = impl.IsOpen([]int{0, 2, 4})
	wantValue(t, "IsOpen", open, ok, false)
	p, ok := impl.FirstClosing([]int{0, 2, 4})
	wantValue(t, "FirstClosing", p, ok, 3)
	rests, ok := impl.RestsOf([]int{0, 2, 4}, 3)
	wantValue(t, "RestsOf", rests, ok, []int{0, 1, 2})
	narrowest, ok := impl.NarrowestOpen(3)
	wantValue(t, "NarrowestOpen", narrowest, ok, []int{0, 2, 6})
	count, ok := impl.PlacesInPeriod([]int{0, 2}, 3)
	wantValue(t, "PlacesInPeriod", count, ok, 3)
	places, ok := impl.FirstPlaces([]int{0, 2}, 3, 30)
	wantValue(t, "FirstPlaces", places, ok, []int{11, 17, 29})
	primes, ok := impl.PrimePlaces([]int{0, 2, 6}, 20)
	wantValue(t, "PrimePlaces", primes, ok, []int{5, 11, 17})
}
