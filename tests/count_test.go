package tests

// Promise 2: what is left by counting is told by ranks, and lucky numbers are left by their own steps.

import (
	"slices"
	"testing"

	"loop.example/g01235/impl"
)

// manySteps returns so many steps that are all the same.
func manySteps(count int, step int) []int { return slices.Repeat([]int{step}, count) }

func TestIsStepList(t *testing.T) {
	for _, steps := range [][]int{nil, {}, {2}, {3}, {400}, {2, 2}, {400, 2, 400}, manySteps(impl.MaxRules, 2), manySteps(impl.MaxRules, impl.MaxAnew)} {
		if !impl.IsStepList(steps) {
			t.Error("no steps", steps)
		}
	}
	for _, steps := range [][]int{{1}, {0}, {-2}, {401}, {2, 1}, {1, 2}, {2, 401, 3}, manySteps(impl.MaxRules+1, 2), manySteps(1000, 400)} {
		if impl.IsStepList(steps) {
			t.Error("steps", steps)
		}
	}
}

func TestLeftByCounting(t *testing.T) {
	for _, c := range []struct {
		steps []int
		most  int
		want  []int
	}{
		{[]int{2, 3}, 16, []int{1, 3, 7, 9, 13, 15}},
		{[]int{2, 3}, 15, []int{1, 3, 7, 9, 13, 15}},
		{[]int{2, 3}, 14, []int{1, 3, 7, 9, 13}},
		{[]int{3, 2}, 16, []int{1, 4, 7, 10, 13, 16}},
		{[]int{2, 2}, 12, []int{1, 5, 9}},
		{[]int{2, 2, 2}, 17, []int{1, 9, 17}},
		{[]int{2}, 0, nil},
		{[]int{2}, 1, []int{1}},
		{[]int{2}, 2, []int{1}},
		{[]int{2}, 3, []int{1, 3}},
		{nil, 0, nil},
		{nil, 1, []int{1}},
		{nil, impl.MaxAnew, upTo(1, 400)},
		{[]int{400}, impl.MaxAnew, upTo(1, 399)},
		{[]int{400}, 399, upTo(1, 399)},
		{[]int{400, 400}, impl.MaxAnew, upTo(1, 399)},
		{[]int{7}, 6, upTo(1, 6)},
		{[]int{2, 4}, 6, []int{1, 3, 5}},
		{[]int{2, 4}, 7, []int{1, 3, 5}},
		{[]int{2, 400, 3}, 7, []int{1, 3, 7}},
		{manySteps(impl.MaxRules, 2), impl.MaxAnew, []int{1}},
		{manySteps(8, 2), impl.MaxAnew, []int{1, 257}},
		{manySteps(impl.MaxRules, 400), impl.MaxAnew, upTo(1, 399)},
	} {
		got, ok := impl.LeftByCounting(c.steps, c.most)
		wantValue(t, "LeftByCounting", got, ok, c.want)
		count, ok := impl.CountByCounting(c.steps, c.most)
		wantValue(t, "CountByCounting", count, ok, len(c.want))
	}
}

func TestCountByCounting(t *testing.T) {
	for most, want := range map[int]int{0: 0, 1: 1, 2: 1, 3: 2, 5: 2, 6: 2, 7: 3, 399: 134, 400: 134} {
		got, ok := impl.CountByCounting([]int{2, 3}, most)
		wantValue(t, "CountByCounting", got, ok, want)
	}
	got, ok := impl.CountByCounting(nil, impl.MaxAnew)
	wantValue(t, "CountByCounting of no steps", got, ok, impl.MaxAnew)
	got, ok = impl.CountByCounting([]int{2, 201}, impl.MaxAnew)
	wantValue(t, "CountByCounting, a step too long", got, ok, 200)
	got, ok = impl.CountByCounting([]int{2, 200}, impl.MaxAnew)
	wantValue(t, "CountByCounting, a step just not too long", got, ok, 199)
}

func TestMostOfCounting(t *testing.T) {
	for _, most := range []int{-1, impl.MaxAnew + 1} {
		left, ok := impl.LeftByCounting([]int{2, 3}, most)
		wantFail(t, "LeftByCounting beyond", left, ok)
		count, ok := impl.CountByCounting([]int{2, 3}, most)
		wantFail(t, "CountByCounting beyond", count, ok)
	}
}

// wantFallen checks that a number is crossed out by the step with the index k.
func wantFallen(t *testing.T, steps []int, n int, k int) {
	t.Helper()
	got, ok := impl.StepOfFall(steps, n)
	wantValue(t, "StepOfFall", got, ok, k)
	rank, ok := impl.RankBehind(steps, n)
	wantFail(t, "RankBehind of a number that is crossed out", rank, ok)
}

// wantRank checks that a number is left, and that it and its rank tell each other.
func wantRank(t *testing.T, steps []int, n int, rank int) {
	t.Helper()
	got, ok := impl.StepOfFall(steps, n)
	wantFail(t, "StepOfFall of a number that is left", got, ok)
	got, ok = impl.RankBehind(steps, n)
	wantValue(t, "RankBehind", got, ok, rank)
	if rank <= 1000 {
		got, ok = impl.NumberOfRank(steps, rank)
		wantValue(t, "NumberOfRank", got, ok, n)
	}
}

func TestFallenAndRanked(t *testing.T) {
	steps := []int{2, 3}
	for rank, n := range []int{1, 3, 7, 9, 13, 15} {
		wantRank(t, steps, n, rank)
	}
	for n, k := range map[int]int{2: 0, 4: 0, 6: 0, 5: 1, 11: 1, 17: 1, 10000: 0, 9998: 0, 9995: 1} {
		wantFallen(t, steps, n, k)
	}
	wantRank(t, steps, 9997, 3332)
	wantRank(t, steps, 9999, 3333)
	wantRank(t, nil, 1, 0)
	wantRank(t, nil, 10000, 9999)
	wantRank(t, []int{3}, 10000, 6666)
	wantRank(t, []int{400}, 399, 398)
	wantRank(t, []int{400}, 401, 399)
	wantFallen(t, []int{400}, 400, 0)
	wantFallen(t, []int{3, 400}, 599, 1)
	wantRank(t, []int{3, 400}, 598, 398)
	wantFallen(t, []int{2, 2, 2}, 2, 0)
	wantFallen(t, []int{2, 2, 2}, 3, 1)
	wantFallen(t, []int{2, 2, 2}, 5, 2)
	wantRank(t, []int{2, 2, 2}, 9, 1)
	wantRank(t, manySteps(impl.MaxRules, 2), 1, 0)
	wantRank(t, manySteps(impl.MaxRules, 2), 4097, 1)
	wantFallen(t, manySteps(impl.MaxRules, 2), 2049, impl.MaxRules-1)
	wantRank(t, manySteps(impl.MaxRules, impl.MaxAnew), 1, 0)
}

func TestNumbersBeyondTracing(t *testing.T) {
	for _, n := range []int{-1, 0, 10001, 10003} {
		for _, steps := range [][]int{nil, {2}, {2, 3}, {73}} {
			got, ok := impl.StepOfFall(steps, n)
			wantFail(t, "StepOfFall beyond", got, ok)
			got, ok = impl.RankBehind(steps, n)
			wantFail(t, "RankBehind beyond", got, ok)
		}
	}
}

// TestNumberOfRank has the greatest numbers of ranks that there are, too: with MaxRules steps of 2 they are less than 10^12 by far.
func TestNumberOfRank(t *testing.T) {
	for _, c := range []struct {
		steps []int
		rank  int
		want  int
	}{
		{[]int{2, 3}, 0, 1}, {[]int{2, 3}, 1, 3}, {[]int{2, 3}, 2, 7}, {[]int{2, 3}, 5, 15}, {[]int{2, 3}, 1000, 3001},
		{[]int{3, 2}, 2, 7}, {[]int{3, 2}, 3, 10},
		{nil, 0, 1}, {nil, 1000, 1001}, {[]int{2}, 1000, 2001}, {[]int{400}, 398, 399}, {[]int{400}, 399, 401}, {[]int{400}, 1000, 1003},
		{manySteps(3, 2), 1000, 8001}, {manySteps(3, 2), 999, 7993}, {manySteps(4, 2), 625, 10001}, {manySteps(4, 2), 624, 9985},
		{manySteps(impl.MaxRules, 2), 0, 1}, {manySteps(impl.MaxRules, 2), 2, 8193}, {manySteps(impl.MaxRules, 2), 1000, 4096001}, {manySteps(impl.MaxRules, 2), 999, 4091905},
		{manySteps(impl.MaxRules, impl.MaxAnew), 398, 399}, {manySteps(impl.MaxRules, impl.MaxAnew), 399, 412},
	} {
		got, ok := impl.NumberOfRank(c.steps, c.rank)
		wantValue(t, "NumberOfRank", got, ok, c.want)
	}
	for _, steps := range [][]int{nil, {2, 3}, {400}} {
		for _, rank := range []int{-1, 1001} {
			got, ok := impl.NumberOfRank(steps, rank)
			wantFail(t, "NumberOfRank beyond", got, ok)
		}
	}
}

// listOf is a function that lists numbers up to most.
type listOf struct {
	name string
	run  func(most int) ([]int, bool)
	want []int
}

// TestListsOfLeft compares lists with the beginnings of known ones.
func TestListsOfLeft(t *testing.T) {
	own := func(first int) func(most int) ([]int, bool) {
		return func(most int) ([]int, bool) { return impl.OwnSteps(first, most) }
	}
	for _, list := range []listOf{
		{"Lucky", impl.Lucky, []int{1, 3, 7, 9, 13, 15, 21, 25, 31, 33, 37, 43, 49, 51, 63, 67, 69, 73, 75, 79, 87, 93, 99}},
		{"EvenLucky", impl.EvenLucky, []int{2, 4, 6, 10, 12, 18, 20, 22, 26, 34, 36, 42, 44, 50, 52, 54, 58, 68, 70, 76, 84, 90, 98, 100}},
		{"RisingSieve", impl.RisingSieve, []int{1, 3, 7, 13, 19, 27, 39, 49, 63, 79, 91, 109, 133, 147, 181, 207, 223, 253, 289, 307, 349, 387, 399}},
		{"OwnSteps of 2", own(2), []int{2, 3, 5, 7, 11, 13, 17, 23, 25, 29, 37, 41, 43, 47, 53, 61, 67, 71, 77, 83, 89, 91, 97}},
		{"OwnSteps of 3", own(3), []int{3, 4, 5, 7, 8, 11, 13, 17, 19, 20, 26, 29}},
		{"OwnSteps of 20", own(20), append(upTo(20, 39), 41, 42, 44, 45, 47, 48, 50, 51)},
	} {
		for most := range list.want[len(list.want)-1] + 1 {
			got, ok := list.run(most)
			wantValue(t, list.name, got, ok, slices.DeleteFunc(slices.Clone(list.want), func(n int) bool { return n > most }))
		}
		for _, most := range []int{-1, impl.MaxAnew + 1} {
			got, ok := list.run(most)
			wantFail(t, list.name+" beyond", got, ok)
		}
	}
}

func TestLuckyUpToMaxAnew(t *testing.T) {
	lucky, ok := impl.Lucky(impl.MaxAnew)
	if !ok || len(lucky) != 71 || lucky[70] != 399 {
		t.Error("Lucky up to MaxAnew", lucky)
	}
	even, ok := impl.EvenLucky(impl.MaxAnew)
	if !ok || even[len(even)-1] != 394 {
		t.Error("EvenLucky up to MaxAnew", even)
	}
}

func TestLuckySteps(t *testing.T) {
	for most, want := range map[int][]int{
		0: {}, 1: {}, 2: {2}, 4: {2}, 5: {2, 3}, 18: {2, 3}, 19: {2, 3, 7}, 26: {2, 3, 7}, 27: {2, 3, 7, 9}, 44: {2, 3, 7, 9}, 45: {2, 3, 7, 9, 13},
		impl.MaxAnew: {2, 3, 7, 9, 13, 15, 21, 25, 31, 33, 37, 43, 49, 51, 63, 67, 69},
	} {
		got, ok := impl.LuckySteps(most)
		wantValue(t, "LuckySteps", got, ok, want)
	}
	for _, most := range []int{-1, impl.MaxAnew + 1} {
		got, ok := impl.LuckySteps(most)
		wantFail(t, "LuckySteps beyond", got, ok)
	}
}

func TestIsLucky(t *testing.T) {
	for n, want := range map[int]bool{1: true, 2: false, 3: true, 5: false, 7: true, 9: true, 11: false, 19: false, 21: true, 27: false, 399: true, 400: false} {
		got, ok := impl.IsLucky(n)
		wantValue(t, "IsLucky", got, ok, want)
	}
	for _, n := range []int{-1, 0, impl.MaxAnew + 1} {
		got, ok := impl.IsLucky(n)
		wantFail(t, "IsLucky beyond", got, ok)
	}
}

// TestRisingOfRank has numbers of ranks greater than MaxAnew, too.
func TestRisingOfRank(t *testing.T) {
	for rank, want := range map[int]int{0: 1, 1: 3, 2: 7, 3: 13, 4: 19, 5: 27, 22: 399, 23: 459, 29: 709, 30: 763} {
		got, ok := impl.RisingOfRank(rank)
		wantValue(t, "RisingOfRank", got, ok, want)
	}
	for _, rank := range []int{-1, 31} {
		got, ok := impl.RisingOfRank(rank)
		wantFail(t, "RisingOfRank beyond", got, ok)
	}
}

func TestOwnSteps(t *testing.T) {
	for _, c := range []struct {
		first, most int
		want        []int
	}{
		{2, 0, nil}, {2, 1, nil}, {2, 2, []int{2}}, {20, 19, nil}, {20, 0, nil}, {20, 20, []int{20}}, {20, 40, upTo(20, 39)}, {5, 9, upTo(5, 9)}, {5, 10, upTo(5, 9)},
	} {
		got, ok := impl.OwnSteps(c.first, c.most)
		wantValue(t, "OwnSteps", got, ok, c.want)
	}
	for _, first := range []int{-1, 0, 1, 21} {
		for _, most := range []int{0, 30, impl.MaxAnew} {
			got, ok := impl.OwnSteps(first, most)
			wantFail(t, "OwnSteps beyond", got, ok)
		}
	}
}

func TestCircle(t *testing.T) {
	for _, c := range []struct {
		n, k int
		want []int
	}{
		{5, 2, []int{2, 4, 1, 5, 3}}, {5, 1, upTo(1, 5)}, {5, 5, []int{5, 1, 3, 4, 2}}, {5, 6, []int{1, 3, 2, 5, 4}}, {5, 1000, []int{5, 4, 1, 3, 2}},
		{7, 3, []int{3, 6, 2, 7, 5, 1, 4}}, {1, 1, []int{1}}, {1, 1000, []int{1}}, {2, 1, []int{1, 2}}, {2, 2, []int{2, 1}}, {2, 1000, []int{2, 1}}, {100, 1, upTo(1, 100)},
	} {
		order, ok := impl.CircleOut(c.n, c.k)
		wantValue(t, "CircleOut", order, ok, c.want)
		last, ok := impl.LastOfCircle(c.n, c.k)
		wantValue(t, "LastOfCircle", last, ok, c.want[c.n-1])
	}
	for k, want := range map[int]int{2: 73, 3: 91, 1: 100} {
		last, ok := impl.LastOfCircle(100, k)
		wantValue(t, "LastOfCircle of 100", last, ok, want)
	}
	for _, c := range [][2]int{{0, 2}, {-1, 2}, {101, 2}, {5, 0}, {5, -1}, {5, 1001}, {1, 0}, {1, 1001}, {0, 0}, {101, 1001}} {
		order, ok := impl.CircleOut(c[0], c[1])
		wantFail(t, "CircleOut beyond", order, ok)
		last, ok := impl.LastOfCircle(c[0], c[1])
		wantFail(t, "LastOfCircle beyond", last, ok)
	}
}
