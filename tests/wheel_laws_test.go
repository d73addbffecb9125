package tests

// Promise 4 for many wheels: each function does what its description says in the plainest words, and functions agree with each other.

import (
	"math/rand"
	"slices"
	"testing"

	"loop.example/g01235/impl"
)

// plainSpokes returns the period of a wheel and its spokes, or 0 if the rules are no wheel.
func plainSpokes(list []impl.Rule) (int, []int) {
	period := plainPeriod(list)
	if period == 0 || period > impl.MaxWheel {
		return 0, nil
	}
	spokes := plainLeft(list, 1, period)
	if len(spokes) == 0 {
		return 0, nil
	}
	return period, spokes
}

// plainSteps goes from each spoke to the next number that is left.
func plainSteps(list []impl.Rule, spokes []int) []int {
	var steps []int
	for _, spoke := range spokes {
		next := spoke + 1
		for crossedOut(list, next) {
			next++
		}
		steps = append(steps, next-spoke)
	}
	return steps
}

// someWheels returns count wheels with at most most as their period, the same ones for each run.
func someWheels(count int, most int, seed int64) [][]impl.Rule {
	wheels := [][]impl.Rule{nil, rules(2, 0), rules(2, 1), rules(2, 0, 3, 0), rules(2, 1, 3, 1, 3, 2), rules(4, 0, 4, 2), rules(6, 1, 6, 4)}
	for wave := int64(0); len(wheels) < count; wave++ {
		for _, list := range someRules(100, seed+100*wave) {
			if period, _ := plainSpokes(list); period > 0 && period <= most {
				wheels = append(wheels, list)
			}
		}
	}
	return wheels[:count]
}

// farOnes returns numbers or ranks: near ones, the last ones up to MaxFar, and some between them.
func farOnes(seed int64) []int {
	far := append(upTo(0, 40), upTo(impl.MaxFar-40, impl.MaxFar)...)
	return append(far, someNumbers(40, 0, impl.MaxFar, seed)...)
}

func TestWheelsAgainstPlainOnes(t *testing.T) {
	wheels := 0
	for _, list := range someRules(300, 41) {
		period, want := plainSpokes(list)
		spokes, ok := impl.SpokesOf(list)
		count, counted := impl.CountSpokes(list)
		steps, stepped := impl.StepsOf(list)
		if period == 0 {
			wantFail(t, "SpokesOf", spokes, ok)
			wantFail(t, "CountSpokes", count, counted)
			wantFail(t, "StepsOf", steps, stepped)
			continue
		}
		wheels++
		wantValue(t, "SpokesOf", spokes, ok, want)
		wantValue(t, "StepsOf", steps, stepped, plainSteps(list, want))
		left, fine := impl.LeftInPeriod(list)
		wantValue(t, "CountSpokes", count, counted && fine, left)
		wantValue(t, "CountSpokes", count, counted, len(spokes))
	}
	if wheels < 100 || wheels > 290 {
		t.Error("the test has too few wheels, or too few others:", wheels)
	}
}

func TestStepsAreThePeriod(t *testing.T) {
	for _, list := range append(someWheels(300, impl.MaxWheel, 42), greatWheels()...) {
		period, ok := impl.PeriodOfRules(list)
		spokes, fine := impl.SpokesOf(list)
		steps, stepped := impl.StepsOf(list)
		if !ok || !fine || !stepped || len(steps) != len(spokes) {
			t.Fatal("not one step for each spoke", list, spokes, steps)
		}
		n := spokes[0]
		for k, step := range steps {
			if n != spokes[k] {
				t.Fatal("the steps do not lead to the spokes", list, spokes, steps)
			}
			n += step
		}
		wantValue(t, "where the steps lead", n, true, spokes[0]+period)
	}
}

func TestRanksOfSpokesTellBack(t *testing.T) {
	for _, list := range someWheels(120, impl.MaxNumber, 43) {
		period, spokes := plainSpokes(list)
		for rank, want := range plainLeft(list, 1, 3*period) {
			n, ok := impl.SpokeOfRank(list, rank)
			wantValue(t, "SpokeOfRank", n, ok, want)
			back, ok := impl.RankOfSpoke(list, want)
			wantValue(t, "RankOfSpoke", back, ok, rank)
		}
		for n := 1; n <= 3*period; n++ {
			_, ranked := impl.RankOfSpoke(list, n)
			if ranked == crossedOut(list, n) {
				t.Fatal("RankOfSpoke of a number that is crossed out, or none of one that is left", list, n)
			}
		}
		last, ok := impl.SpokeOfRank(list, len(spokes)-1)
		wantValue(t, "SpokeOfRank, the last one of a period", last, ok, spokes[len(spokes)-1])
		behind, ok := impl.SpokeOfRank(list, len(spokes))
		wantValue(t, "SpokeOfRank, the first one behind it", behind, ok, spokes[0]+period)
	}
}

func TestRanksAgreeWithSieves(t *testing.T) {
	for _, list := range someWheels(120, impl.MaxWheel, 44) {
		for rank := range impl.MaxNumber + 1 {
			want, ok := impl.LeftOfRank(list, rank)
			n, fine := impl.SpokeOfRank(list, rank)
			if !ok {
				if !fine || n <= impl.MaxNumber {
					t.Fatal("SpokeOfRank tells a number that LeftOfRank does not", list, rank, n)
				}
				break
			}
			wantValue(t, "SpokeOfRank", n, fine, want)
		}
		for n := 1; n <= impl.MaxNumber; n++ {
			rank, ok := impl.RankOfSpoke(list, n)
			if !ok {
				continue
			}
			before, fine := impl.CountLeft(list, n-1)
			wantValue(t, "RankOfSpoke", rank, fine, before)
		}
	}
}

// TestFarRanks goes along the wheel from far ranks, and back from far numbers.
func TestFarRanks(t *testing.T) {
	wheels := append(someWheels(80, impl.MaxWheel, 45), greatWheels()...)
	for i, list := range append(wheels, oneIn864(), fourIn4320(0), fourIn4320(4)) {
		period, spokes := plainSpokes(list)
		for _, rank := range farOnes(int64(4500 + i)) {
			n, ok := impl.SpokeOfRank(list, rank)
			if !ok || crossedOut(list, n) {
				t.Fatal("no number of a far rank", list, rank, n)
			}
			turns := rank / len(spokes)
			wantValue(t, "SpokeOfRank", n-turns*period, ok, spokes[rank-turns*len(spokes)])
			if n <= impl.MaxFar {
				back, ok := impl.RankOfSpoke(list, n)
				wantValue(t, "RankOfSpoke", back, ok, rank)
			}
		}
		for _, n := range farOnes(int64(4600 + i)) {
			rank, ok := impl.RankOfSpoke(list, n)
			if n == 0 || crossedOut(list, n) {
				wantFail(t, "RankOfSpoke", rank, ok)
				continue
			}
			back, fine := impl.SpokeOfRank(list, rank)
			wantValue(t, "SpokeOfRank", back, ok && fine, n)
		}
	}
}

func TestSpokesAreLeft(t *testing.T) {
	for i, list := range someWheels(80, impl.MaxWheel, 46) {
		for n := range impl.MaxNumber + 1 {
			want, ok := impl.IsLeft(list, n)
			got, fine := impl.IsSpoke(list, n)
			wantValue(t, "IsSpoke", got, ok && fine, want)
		}
		for _, n := range farOnes(int64(4700 + i)) {
			got, ok := impl.IsSpoke(list, n)
			wantValue(t, "IsSpoke", got, ok, !crossedOut(list, n))
		}
	}
}

// plainNear looks at all numbers near n for one at the least distance, from the least number on.
func plainNear(list []impl.Rule, n int, most int) int {
	left := plainLeft(list, n-most, n+most)
	near := left[0]
	for _, m := range left {
		if max(m-n, n-m) < max(near-n, n-near) {
			near = m
		}
	}
	return near
}

func TestSpokesNear(t *testing.T) {
	for i, list := range someWheels(60, impl.MaxNumber, 47) {
		period := plainPeriod(list)
		for _, n := range append(farOnes(int64(4800+i)), period-1, period, period+1, 2*period) {
			near, ok := impl.SpokeNear(list, n)
			wantValue(t, "SpokeNear", near, ok, plainNear(list, n, period))
			if near < 0 || near > impl.MaxNumber {
				continue
			}
			left, fine := impl.IsLeft(list, near)
			wantValue(t, "IsLeft of SpokeNear", left, fine, true)
		}
		for n := range 2 * period {
			near, ok := impl.SpokeNear(list, n)
			isSpoke, fine := impl.IsSpoke(list, n)
			wantValue(t, "whether SpokeNear is the number itself", near == n, ok && fine, isSpoke)
		}
	}
}

func TestStepsAreCounted(t *testing.T) {
	for _, list := range append(someWheels(200, impl.MaxWheel, 48), greatWheels()...) {
		steps, _ := impl.StepsOf(list)
		spokes, _ := impl.SpokesOf(list)
		counts := map[int]int{}
		greatest, from := 0, 0
		for k, step := range steps {
			counts[step]++
			if step > greatest {
				greatest, from = step, spokes[k]
			}
		}
		longest, spoke, ok := impl.LongestStep(list)
		wantValue(t, "LongestStep", []int{longest, spoke}, ok, []int{greatest, from})
		sizes, ok := impl.StepSizes(list)
		wantValue(t, "StepSizes", sizes, ok, slices.DeleteFunc(upTo(1, greatest), func(step int) bool { return counts[step] == 0 }))
		for step := 1; step <= greatest+2; step++ {
			count, ok := impl.CountStep(list, step)
			wantValue(t, "CountStep", count, ok, counts[step])
		}
	}
}

// repeated returns the rules that cross out the same numbers with times the Every: their period is greater, and their least period is not.
func repeated(list []impl.Rule, times int) []impl.Rule {
	var longer []impl.Rule
	for _, r := range list {
		for turn := range times {
			longer = append(longer, impl.Rule{Every: times * r.Every, Rest: turn*r.Every + r.Rest})
		}
	}
	return longer
}

// TestLeastPeriodsMove tries all moves that there are.
func TestLeastPeriodsMove(t *testing.T) {
	wheels := someWheels(60, 360, 49)
	for _, list := range [][]impl.Rule{rules(2, 0, 3, 1), rules(3, 1), rules(5, 0, 5, 2), rules(2, 0, 2, 0), rules(7, 1, 2, 1), rules(2, 1, 5, 4, 3, 0)} {
		wheels = append(wheels, repeated(list, 2), repeated(list, 3), repeated(list, 4))
	}
	shorter := 0
	for _, list := range wheels {
		period, _ := plainSpokes(list)
		least, ok := impl.LeastPeriod(list)
		if !ok || period%least != 0 {
			t.Fatal("the period is no multiple of the least one", list, period, least)
		}
		if least < period {
			shorter++
		}
		for by := 1; by <= least; by++ {
			moved, ok := impl.MoveRules(list, by)
			same, fine := impl.AreSameSieve(list, moved)
			wantValue(t, "AreSameSieve of moved rules", same, ok && fine, by == least)
		}
	}
	if shorter < 15 || len(wheels)-shorter < 15 {
		t.Error("the test has too few wheels of one kind:", shorter)
	}
}

func TestSymmetricWheelsAreMirrored(t *testing.T) {
	symmetric := 0
	wheels := someWheels(300, impl.MaxWheel, 50)
	for _, list := range someWheels(60, impl.MaxWheel, 51) {
		mirrored, _ := impl.MirrorRules(list)
		if both := append(mirrored, list...); len(both) <= impl.MaxRules {
			if period, _ := plainSpokes(both); period > 0 {
				wheels = append(wheels, both)
			}
		}
	}
	for _, list := range wheels {
		mirrored, ok := impl.MirrorRules(list)
		same, fine := impl.AreSameSieve(list, mirrored)
		got, told := impl.IsSymmetric(list)
		wantValue(t, "IsSymmetric", got, ok && fine && told, same)
		period := plainPeriod(list)
		for n := -period; n <= 2*period; n++ {
			if crossedOut(list, n) != crossedOut(list, period-n) {
				same = false
			}
		}
		wantValue(t, "IsSymmetric", got, told, same)
		if same {
			symmetric++
		}
	}
	if symmetric < 30 || len(wheels)-symmetric < 30 {
		t.Error("the test has too few wheels of one kind:", symmetric)
	}
}

// plainRolled returns the spokes of as many periods as the prime tells, without its multiples.
func plainRolled(period int, spokes []int, prime int) []int {
	var rolled []int
	for turn := range prime {
		for _, spoke := range spokes {
			if n := turn*period + spoke; n%prime != 0 {
				rolled = append(rolled, n)
			}
		}
	}
	return rolled
}

func TestRolledWheels(t *testing.T) {
	primes := primesIn(primeTable(60), 2, 60)
	for _, list := range someWheels(80, impl.MaxWheel, 52) {
		period, spokes := plainSpokes(list)
		for prime := -3; prime <= 67; prime++ {
			got, ok := impl.RollWheel(list, prime)
			if !slices.Contains(primes, prime) || period%prime == 0 || period*prime > impl.MaxWheel || len(list) >= impl.MaxRules {
				wantFail(t, "RollWheel", got, ok)
				continue
			}
			wantValue(t, "RollWheel", got, ok, plainRolled(period, spokes, prime))
			of, fine := impl.SpokesOf(append(slices.Clone(list), impl.Rule{Every: prime}))
			wantValue(t, "RollWheel", got, ok && fine, of)
		}
	}
}

func TestTimesOfDistances(t *testing.T) {
	for i, list := range someWheels(60, 1200, 53) {
		period, spokes := plainSpokes(list)
		for _, step := range append(someNumbers(12, 1, impl.MaxWheel, int64(5300+i)), 1, 2, 3, 4, 6, 12, min(period, impl.MaxWheel)) {
			want := 0
			for _, spoke := range spokes {
				if !crossedOut(list, spoke+step) {
					want++
				}
			}
			got, ok := impl.TimesTogether(list, step)
			wantValue(t, "TimesTogether", got, ok, want)
		}
	}
}

// TestTimesOfRuns has from each spoke the distances that some steps together lead, each of which FirstRun and SpokesOf tell.
func TestTimesOfRuns(t *testing.T) {
	for _, list := range someWheels(60, 300, 54) {
		spokes, _ := impl.SpokesOf(list)
		steps, _ := impl.StepsOf(list)
		times := map[int]int{}
		for k := range spokes {
			distance := 0
			var run []int
			for i := range 8 {
				step := steps[(k+i)%len(steps)]
				distance += step
				run = append(run, step)
				times[distance]++
				first, ok := impl.FirstRun(list, run)
				if !ok || first > spokes[k] || !slices.Contains(spokes, first) {
					t.Fatal("no first run", list, run, first)
				}
				if n := first + distance; crossedOut(list, n) {
					t.Fatal("the run does not lead to a number that is left", list, run, first)
				}
			}
		}
		for distance, want := range times {
			if got, ok := impl.TimesTogether(list, distance); !ok || got < want {
				t.Error("TimesTogether tells too few", list, distance, got, want)
			}
		}
		// Eight steps lead at least as far as 8, so that up to there nothing is missing.
		for distance := 1; distance <= 8; distance++ {
			got, ok := impl.TimesTogether(list, distance)
			wantValue(t, "TimesTogether", got, ok, times[distance])
		}
	}
}

// runsFrom reports whether a list of steps leads from a spoke just from one number that is left to the next one.
func runsFrom(list []impl.Rule, spoke int, run []int) bool {
	n := spoke
	for _, step := range run {
		if len(plainLeft(list, n+1, n+step)) != 1 || crossedOut(list, n+step) {
			return false
		}
		n += step
	}
	return true
}

func TestFirstRunsArePlain(t *testing.T) {
	random := rand.New(rand.NewSource(55))
	found, missing := 0, 0
	for _, list := range someWheels(150, 400, 56) {
		_, spokes := plainSpokes(list)
		steps := plainSteps(list, spokes)
		for range 12 {
			from, length := random.Intn(len(steps)), 1+random.Intn(8)
			var run []int
			for i := range length {
				run = append(run, steps[(from+i)%len(steps)])
			}
			if random.Intn(3) == 0 {
				run[random.Intn(length)] = 1 + random.Intn(6)
			}
			k := slices.IndexFunc(spokes, func(spoke int) bool { return runsFrom(list, spoke, run) })
			got, ok := impl.FirstRun(list, run)
			if k < 0 {
				wantFail(t, "FirstRun", got, ok)
				missing++
				continue
			}
			wantValue(t, "FirstRun", got, ok, spokes[k])
			found++
		}
	}
	if found < 500 || missing < 100 {
		t.Error("the test has too few runs of one kind:", found, missing)
	}
}
