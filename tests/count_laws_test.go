package tests

// Promise 2 for many steps: each function does what its description says in the plainest words, and functions agree with each other.

import (
	"math/rand"
	"slices"
	"testing"

	"loop.example/g01235/impl"
)

// plainOut returns what a step leaves of a list, and what it counts out.
func plainOut(list []int, step int) ([]int, []int) {
	var left, out []int
	next := step
	for i, n := range list {
		if i+1 == next {
			out = append(out, n)
			next += step
		} else {
			left = append(left, n)
		}
	}
	return left, out
}

// plainBehind returns what is left of a list behind all steps.
func plainBehind(list []int, steps []int) []int {
	for _, step := range steps {
		list, _ = plainOut(list, step)
	}
	return list
}

// someSteps returns count lists of steps, the same ones for each run, most of them short.
func someSteps(count int, seed int64) [][]int {
	random := rand.New(rand.NewSource(seed))
	lists := [][]int{nil, {2}, {impl.MaxAnew}, {2, 3}, {3, 2}, manySteps(impl.MaxRules, 2), manySteps(impl.MaxRules, impl.MaxAnew)}
	for len(lists) < count {
		var steps []int
		for range random.Intn(impl.MaxRules + 1) {
			steps = append(steps, 2+random.Intn([]int{3, 9, 40, impl.MaxAnew - 1}[random.Intn(4)]))
		}
		lists = append(lists, steps)
	}
	return lists
}

func TestListsByCounting(t *testing.T) {
	for _, steps := range someSteps(150, 21) {
		for _, most := range []int{0, 1, 2, 17, 60, 199, 399, 400} {
			want := plainBehind(upTo(1, most), steps)
			left, ok := impl.LeftByCounting(steps, most)
			wantValue(t, "LeftByCounting", left, ok, want)
			count, ok := impl.CountByCounting(steps, most)
			wantValue(t, "CountByCounting", count, ok, len(left))
		}
	}
}

func TestFallsAndRanks(t *testing.T) {
	for _, steps := range someSteps(60, 22) {
		left := upTo(1, 10000)
		for k, step := range steps {
			var out []int
			left, out = plainOut(left, step)
			for _, n := range out {
				wantFallen(t, steps, n, k)
			}
		}
		for rank, n := range left {
			wantRank(t, steps, n, rank)
		}
	}
}

// TestRanksTellNumbers goes from ranks to numbers that may be greater than 10000, and on foot back.
func TestRanksTellNumbers(t *testing.T) {
	for _, steps := range someSteps(40, 23) {
		greatest, ok := impl.NumberOfRank(steps, 1000)
		if !ok || greatest > 4096001 {
			t.Fatal("no number of rank 1000", steps, greatest)
		}
		left := plainBehind(upTo(1, greatest), steps)
		if len(left) != 1001 {
			t.Fatal("not so many are left", steps, len(left))
		}
		for rank, want := range left {
			n, ok := impl.NumberOfRank(steps, rank)
			wantValue(t, "NumberOfRank", n, ok, want)
			if n > 10000 {
				continue
			}
			back, ok := impl.RankBehind(steps, n)
			wantValue(t, "RankBehind", back, ok, rank)
		}
	}
}

func TestFallsAgreeWithLeft(t *testing.T) {
	for _, steps := range someSteps(100, 24) {
		left, _ := impl.LeftByCounting(steps, impl.MaxAnew)
		for n := 1; n <= impl.MaxAnew; n++ {
			_, fallen := impl.StepOfFall(steps, n)
			_, ranked := impl.RankBehind(steps, n)
			if isLeft := slices.Contains(left, n); fallen == isLeft || ranked != isLeft {
				t.Fatal("StepOfFall, RankBehind and LeftByCounting disagree", steps, n)
			}
		}
	}
}

// farEnough is a bound up to which plain sieves go, well behind MaxAnew, so that an end cannot show.
const farEnough = 2000

// firstOut is a step, and the first number that it crosses out.
type firstOut struct {
	step, number int
}

// plainOwn counts a list out by its second number, what is left by its third one, and so on, and returns what is left, and the first numbers that the steps cross out.
func plainOwn(list []int) ([]int, []firstOut) {
	var firsts []firstOut
	for k := 1; k < len(list); k++ {
		step := list[k]
		left, out := plainOut(list, step)
		if len(out) > 0 {
			firsts = append(firsts, firstOut{step, out[0]})
		}
		list = left
	}
	return list, firsts
}

// odd and even are asked which numbers are not in a list at first.
func odd(n int) bool { return n%2 == 1 }

func even(n int) bool { return n%2 == 0 }

func TestLuckyNumbers(t *testing.T) {
	lucky, firsts := plainOwn(slices.DeleteFunc(upTo(1, farEnough), even))
	firsts = slices.Insert(firsts, 0, firstOut{2, 2})
	evenLucky, _ := plainOwn(slices.DeleteFunc(upTo(1, farEnough), odd))
	for most := range impl.MaxAnew + 1 {
		got, ok := impl.Lucky(most)
		wantValue(t, "Lucky", got, ok, cutAt(lucky, most))
		got, ok = impl.EvenLucky(most)
		wantValue(t, "EvenLucky", got, ok, cutAt(evenLucky, most))
		var steps []int
		for _, f := range firsts {
			if f.number <= most {
				steps = append(steps, f.step)
			}
		}
		got, ok = impl.LuckySteps(most)
		wantValue(t, "LuckySteps", got, ok, steps)
	}
}

// cutAt returns the beginning of an increasing list that is no greater than most.
func cutAt(list []int, most int) []int {
	return slices.DeleteFunc(slices.Clone(list), func(n int) bool { return n > most })
}

func TestLuckyByTheirSteps(t *testing.T) {
	for most := range impl.MaxAnew + 1 {
		lucky, ok := impl.Lucky(most)
		steps, fine := impl.LuckySteps(most)
		wantValue(t, "Lucky", lucky, ok && fine, plainBehind(upTo(1, most), steps))
		if len(steps) <= impl.MaxRules {
			left, ok := impl.LeftByCounting(steps, most)
			wantValue(t, "LeftByCounting by LuckySteps", left, ok, lucky)
		}
		for k := range steps {
			less := slices.Concat(steps[:k], steps[k+1:])
			if slices.Equal(plainBehind(upTo(1, most), less), lucky) {
				t.Error("a step crosses nothing out", most, steps[k])
			}
		}
	}
}

func TestIsLuckyAgrees(t *testing.T) {
	all, _ := impl.Lucky(impl.MaxAnew)
	for n := 1; n <= impl.MaxAnew; n++ {
		lucky, ok := impl.IsLucky(n)
		wantValue(t, "IsLucky", lucky, ok, slices.Contains(all, n))
	}
}

func TestRisingNumbers(t *testing.T) {
	list := plainBehind(upTo(1, farEnough), upTo(2, farEnough))
	for most := range impl.MaxAnew + 1 {
		got, ok := impl.RisingSieve(most)
		wantValue(t, "RisingSieve", got, ok, cutAt(list, most))
		for rank, want := range got {
			n, ok := impl.RisingOfRank(rank)
			wantValue(t, "RisingOfRank", n, ok, want)
		}
	}
	for rank := range 31 {
		n, ok := impl.RisingOfRank(rank)
		wantValue(t, "RisingOfRank", n, ok, list[rank])
	}
}

// plainOwnSteps lets each number that is left, from first on, be a step for all greater ones.
func plainOwnSteps(first int) []int {
	list := upTo(first, farEnough)
	for k := 0; k < len(list); k++ {
		greater, _ := plainOut(list[k+1:], list[k])
		list = slices.Concat(list[:k+1], greater)
	}
	return list
}

func TestOwnStepsOfAll(t *testing.T) {
	for first := 2; first <= 20; first++ {
		list := plainOwnSteps(first)
		for most := range impl.MaxAnew + 1 {
			got, ok := impl.OwnSteps(first, most)
			wantValue(t, "OwnSteps", got, ok, cutAt(list, most))
		}
	}
}

// plainCircle walks around a circle of numbers, one by one, over those that are out.
func plainCircle(n int, k int) []int {
	out := make([]bool, n)
	var order []int
	at := n - 1
	for len(order) < n {
		for counted := 0; counted < k; {
			at = (at + 1) % n
			if !out[at] {
				counted++
			}
		}
		out[at] = true
		order = append(order, at+1)
	}
	return order
}

func TestCircles(t *testing.T) {
	for n := 1; n <= 100; n++ {
		for _, k := range []int{1, 2, 3, 7, n, n + 1, 2 * n, 101, 1000} {
			order, ok := impl.CircleOut(n, k)
			wantValue(t, "CircleOut", order, ok, plainCircle(n, k))
		}
	}
}

func TestLastAgreesWithCircle(t *testing.T) {
	for n := 1; n <= 100; n++ {
		for k := 1; k <= 1000; k++ {
			order, ok := impl.CircleOut(n, k)
			last, fine := impl.LastOfCircle(n, k)
			if !ok || !fine || len(order) != n || last != order[n-1] {
				t.Fatal("LastOfCircle and CircleOut disagree", n, k, last, order)
			}
		}
	}
}
