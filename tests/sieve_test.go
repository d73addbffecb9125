package tests

// Promise 1: what is left is what no rule crosses out, and sieves come again with their period.

import (
	"strings"
	"testing"

	"loop.example/g01235/impl"
)

// nothingLeft are rules that leave no number.
func nothingLeft() []impl.Rule { return rules(2, 0, 3, 0, 3, 1, 6, 5) }

// oneIn864 are rules that leave just the numbers one less than a multiple of 864.
func oneIn864() []impl.Rule {
	return rules(2, 0, 4, 1, 8, 3, 16, 7, 32, 15, 3, 0, 3, 1, 9, 2, 9, 5, 27, 8, 27, 17)
}

func upTo(low int, high int) []int {
	var list []int
	for n := low; n <= high; n++ {
		list = append(list, n)
	}
	return list
}

func TestIsRule(t *testing.T) {
	for _, r := range rules(2, 0, 2, 1, 3, 1, 60, 0, 60, 59) {
		if !impl.IsRule(r) {
			t.Error("no rule", r)
		}
	}
	for _, r := range rules(1, 0, 61, 0, 61, 60, 0, 0, -2, 0, -2, -1, 2, 2, 60, 60, 5, -1, 60, -1) {
		if impl.IsRule(r) {
			t.Error("a rule", r)
		}
	}
}

func TestAreRules(t *testing.T) {
	r := impl.Rule{Every: 60, Rest: 59}
	for _, list := range [][]impl.Rule{nil, {}, rules(2, 0), rules(2, 0, 2, 0), manyRules(impl.MaxRules, r)} {
		if !impl.AreRules(list) {
			t.Error("no rules", list)
		}
	}
	for _, list := range [][]impl.Rule{rules(1, 0), rules(2, 0, 3, 3), rules(61, 0, 2, 0), manyRules(impl.MaxRules+1, r)} {
		if impl.AreRules(list) {
			t.Error("rules", list)
		}
	}
}

func TestIsLeft(t *testing.T) {
	list := rules(2, 0, 3, 1)
	for _, n := range []int{3, 5, 9, 11, 599, -1, -3, -7, -9, -597} {
		got, ok := impl.IsLeft(list, n)
		wantValue(t, "IsLeft", got, ok, true)
	}
	for _, n := range []int{0, 1, 2, 4, 7, 600, -2, -4, -5, -11, -599, -600} {
		got, ok := impl.IsLeft(list, n)
		wantValue(t, "IsLeft", got, ok, false)
	}
	for _, n := range []int{-impl.MaxNumber, 0, impl.MaxNumber} {
		got, ok := impl.IsLeft(nil, n)
		wantValue(t, "IsLeft of no rules", got, ok, true)
		got, ok = impl.IsLeft(nothingLeft(), n)
		wantValue(t, "IsLeft of nothing", got, ok, false)
	}
	for _, n := range []int{-impl.MaxNumber - 1, impl.MaxNumber + 1} {
		got, ok := impl.IsLeft(nil, n)
		wantFail(t, "IsLeft beyond", got, ok)
	}
}

func TestFirstRule(t *testing.T) {
	list := rules(2, 0, 3, 1, 3, 1, 60, 59)
	for n, want := range map[int]int{0: 0, 4: 0, 1: 1, 7: 1, 59: 3, -2: 0, -5: 1, -1: 3, -599: 1, -541: 3, -600: 0, 600: 0} {
		got, ok := impl.FirstRule(list, n)
		wantValue(t, "FirstRule", got, ok, want)
	}
	for _, n := range []int{3, 5, -3, -7, -601, 601} {
		got, ok := impl.FirstRule(list, n)
		wantFail(t, "FirstRule", got, ok)
	}
	got, ok := impl.FirstRule(nil, 0)
	wantFail(t, "FirstRule of no rules", got, ok)
	got, ok = impl.FirstRule(append(manyRules(impl.MaxRules-1, list[0]), list[1]), 1)
	wantValue(t, "FirstRule, the last one", got, ok, impl.MaxRules-1)
}

func TestLeftUpTo(t *testing.T) {
	got, ok := impl.LeftUpTo(rules(2, 0, 3, 1), 11)
	wantValue(t, "LeftUpTo", got, ok, []int{3, 5, 9, 11})
	got, ok = impl.LeftUpTo(rules(2, 0, 3, 1), 10)
	wantValue(t, "LeftUpTo", got, ok, []int{3, 5, 9})
	got, ok = impl.LeftUpTo(nil, 0)
	wantValue(t, "LeftUpTo of 0", got, ok, []int{})
	got, ok = impl.LeftUpTo(nil, impl.MaxNumber)
	wantValue(t, "LeftUpTo of no rules", got, ok, upTo(1, impl.MaxNumber))
	got, ok = impl.LeftUpTo(nothingLeft(), impl.MaxNumber)
	wantValue(t, "LeftUpTo of nothing", got, ok, []int{})
	for _, most := range []int{-1, impl.MaxNumber + 1} {
		got, ok = impl.LeftUpTo(nil, most)
		wantFail(t, "LeftUpTo beyond", got, ok)
	}
}

func TestCountLeft(t *testing.T) {
	for most, want := range map[int]int{0: 0, 1: 0, 2: 0, 3: 1, 11: 4, 600: 200} {
		got, ok := impl.CountLeft(rules(2, 0, 3, 1), most)
		wantValue(t, "CountLeft", got, ok, want)
	}
	got, ok := impl.CountLeft(nil, 0)
	wantValue(t, "CountLeft of 0", got, ok, 0)
	got, ok = impl.CountLeft(nil, impl.MaxNumber)
	wantValue(t, "CountLeft of no rules", got, ok, impl.MaxNumber)
	got, ok = impl.CountLeft(nothingLeft(), impl.MaxNumber)
	wantValue(t, "CountLeft of nothing", got, ok, 0)
	for _, most := range []int{-1, impl.MaxNumber + 1} {
		got, ok = impl.CountLeft(nil, most)
		wantFail(t, "CountLeft beyond", got, ok)
	}
}

func TestCountBetween(t *testing.T) {
	list := rules(2, 0, 3, 1)
	for bounds, want := range map[[2]int]int{
		{3, 11}: 4, {4, 10}: 2, {0, 3}: 1, {5, 5}: 1, {6, 6}: 0, {0, 600}: 200, {12, 3}: 0, {5, 4}: 0, {600, 0}: 0,
	} {
		got, ok := impl.CountBetween(list, bounds[0], bounds[1])
		wantValue(t, "CountBetween", got, ok, want)
	}
	got, ok := impl.CountBetween(nil, 0, 0)
	wantValue(t, "CountBetween, 0 itself", got, ok, 1)
	got, ok = impl.CountBetween(nil, 0, impl.MaxNumber)
	wantValue(t, "CountBetween of all", got, ok, impl.MaxNumber+1)
	got, ok = impl.CountBetween(nothingLeft(), 0, impl.MaxNumber)
	wantValue(t, "CountBetween of nothing", got, ok, 0)
	for _, bounds := range [][2]int{{-1, 5}, {601, 5}, {5, -1}, {5, 601}, {601, 601}} {
		got, ok = impl.CountBetween(list, bounds[0], bounds[1])
		wantFail(t, "CountBetween beyond", got, ok)
	}
}

func TestLeftOfRank(t *testing.T) {
	for rank, want := range map[int]int{0: 3, 1: 5, 2: 9, 3: 11, 199: 599} {
		got, ok := impl.LeftOfRank(rules(2, 0, 3, 1), rank)
		wantValue(t, "LeftOfRank", got, ok, want)
	}
	got, ok := impl.LeftOfRank(nil, 0)
	wantValue(t, "LeftOfRank of no rules", got, ok, 1)
	got, ok = impl.LeftOfRank(nil, impl.MaxNumber-1)
	wantValue(t, "LeftOfRank at the end", got, ok, impl.MaxNumber)
	got, ok = impl.LeftOfRank(nil, impl.MaxNumber)
	wantFail(t, "LeftOfRank behind the end", got, ok)
	got, ok = impl.LeftOfRank(rules(2, 0, 3, 1), 200)
	wantFail(t, "LeftOfRank behind the end", got, ok)
	got, ok = impl.LeftOfRank(nil, -1)
	wantFail(t, "LeftOfRank of -1", got, ok)
	got, ok = impl.LeftOfRank(nothingLeft(), 0)
	wantFail(t, "LeftOfRank of nothing", got, ok)
}

func TestNextLeft(t *testing.T) {
	for n, want := range map[int]int{0: 3, 2: 3, 3: 5, 5: 9, 11: 15, -1: 3, -4: -3, -600: -597, 599: 603, 600: 603} {
		got, ok := impl.NextLeft(rules(2, 0, 3, 1), n)
		wantValue(t, "NextLeft", got, ok, want)
	}
	got, ok := impl.NextLeft(nil, impl.MaxNumber)
	wantValue(t, "NextLeft of no rules", got, ok, impl.MaxNumber+1)
	for _, n := range []int{-601, 601} {
		got, ok = impl.NextLeft(nil, n)
		wantFail(t, "NextLeft beyond", got, ok)
	}
	got, ok = impl.NextLeft(nothingLeft(), 0)
	wantFail(t, "NextLeft of nothing", got, ok)
}

func TestNextLeftFarAway(t *testing.T) {
	// -1 is crossed out by the last rule, -865 and 863 are left.
	list := append(oneIn864(), impl.Rule{Every: 5, Rest: 4})
	for _, n := range []int{-137, -136, 0, 600} {
		got, ok := impl.NextLeft(list, n)
		wantValue(t, "NextLeft", got, ok, 863)
	}
	for _, n := range []int{-138, -139, -600} {
		got, ok := impl.NextLeft(list, n)
		wantFail(t, "NextLeft, too far away", got, ok)
	}
	// 863 is crossed out, -1 and 1727 are left.
	list[11].Rest = 3
	got, ok := impl.NextLeft(list, -2)
	wantValue(t, "NextLeft", got, ok, -1)
	for _, n := range []int{-1, 0, 600} {
		got, ok := impl.NextLeft(list, n)
		wantFail(t, "NextLeft, too far away", got, ok)
	}
}

func TestCrossedBy(t *testing.T) {
	list := rules(2, 0, 3, 1, 4, 2, 60, 0, 5, 0)
	for k, want := range [][]int{{2, 4, 6, 8, 10, 12, 14, 16}, {1, 7, 13}, {}, {}, {5, 15}} {
		got, ok := impl.CrossedBy(list, k, 16)
		wantValue(t, "CrossedBy", got, ok, want)
	}
	got, ok := impl.CrossedBy(list, 0, 0)
	wantValue(t, "CrossedBy up to 0", got, ok, []int{})
	got, ok = impl.CrossedBy(rules(60, 0), 0, impl.MaxNumber)
	wantValue(t, "CrossedBy up to MaxNumber", got, ok, []int{60, 120, 180, 240, 300, 360, 420, 480, 540, 600})
	for _, k := range []int{-1, 5} {
		got, ok = impl.CrossedBy(list, k, 16)
		wantFail(t, "CrossedBy no rule", got, ok)
	}
	got, ok = impl.CrossedBy(nil, 0, 16)
	wantFail(t, "CrossedBy of no rules", got, ok)
	for _, most := range []int{-1, impl.MaxNumber + 1} {
		got, ok = impl.CrossedBy(list, 0, most)
		wantFail(t, "CrossedBy beyond", got, ok)
	}
}

func TestNeedless(t *testing.T) {
	for _, c := range []struct{ rules, needless, kept string }{
		{"-", "", "-"},
		{"2:0,3:1", "", "2:0,3:1"},
		{"2:0,3:1,4:2", "2", "2:0,3:1"},
		{"4:2,2:0", "0", "2:0"},
		{"2:0,2:0", "0 1", "2:0"},
		{"2:0,4:0,4:2", "0 1 2", "2:0"},
		{"4:0,4:2,2:0", "0 1 2", "4:0,4:2"},
		{"4:0,2:0,4:2", "0 1 2", "2:0"},
		{"2:0,2:1", "", "2:0,2:1"},
		{"2:0,2:1,3:0", "2", "2:0,2:1"},
		{"3:0,2:0,2:1", "0", "2:0,2:1"},
		{"2:0,3:0,6:1,6:5", "", "2:0,3:0,6:1,6:5"},
		{"2:0,3:0,6:5,2:1", "1 2", "2:0,2:1"},
		{"60:59,60:59,60:59", "0 1 2", "60:59"},
	} {
		list := readRules(t, c.rules)
		got, ok := impl.NeedlessRules(list)
		wantValue(t, "NeedlessRules of "+c.rules, wordsOf(got), ok, c.needless)
		kept, ok := impl.DropNeedless(list)
		wantValue(t, "DropNeedless of "+c.rules, kept, ok, readRules(t, c.kept))
	}
}

func TestNeedlessOfMaxRules(t *testing.T) {
	list := manyRules(impl.MaxRules, impl.Rule{Every: 7, Rest: 3})
	got, ok := impl.NeedlessRules(list)
	wantValue(t, "NeedlessRules", got, ok, upTo(0, impl.MaxRules-1))
	kept, ok := impl.DropNeedless(list)
	wantValue(t, "DropNeedless", kept, ok, rules(7, 3))
}

func TestPeriodOfRules(t *testing.T) {
	for text, want := range map[string]int{
		"-": 1, "2:0": 2, "60:59": 60, "2:0,3:1": 6, "4:0,6:1": 12, "2:0,2:1": 2, "7:0,7:0,5:0": 35,
		"3:0,25:0,31:0,43:0": 99975, "8:0,3:0,5:0,49:0,17:0": 99960, "43:42,31:30,25:24,3:2": 99975,
	} {
		got, ok := impl.PeriodOfRules(readRules(t, text))
		wantValue(t, "PeriodOfRules of "+text, got, ok, want)
	}
}

// longPeriods are rules with periods of more than 100000, the first ones just so, the last two more than an int holds.
func longPeriods() [][]impl.Rule {
	return [][]impl.Rule{
		rules(3, 0, 17, 0, 37, 0, 53, 0),
		rules(16, 0, 7, 0, 19, 0, 47, 0),
		rules(59, 0, 58, 0, 57, 0, 55, 0),
		rules(60, 0, 59, 0, 53, 0, 47, 0, 43, 0, 41, 0, 37, 0, 31, 0, 29, 0, 23, 0, 19, 0, 17, 0),
		rules(32, 0, 27, 0, 25, 0, 49, 0, 59, 0, 53, 0, 47, 0, 43, 0, 41, 0, 37, 0, 31, 0, 29, 0),
	}
}

func TestLongPeriods(t *testing.T) {
	for _, list := range longPeriods() {
		period, ok := impl.PeriodOfRules(list)
		wantFail(t, "PeriodOfRules", period, ok)
		needless, ok := impl.NeedlessRules(list)
		wantFail(t, "NeedlessRules", needless, ok)
		kept, ok := impl.DropNeedless(list)
		wantFail(t, "DropNeedless", kept, ok)
		count, ok := impl.LeftInPeriod(list)
		wantFail(t, "LeftInPeriod", count, ok)
		same, ok := impl.AreSameSieve(list, list)
		wantFail(t, "AreSameSieve", same, ok)
		same, ok = impl.AreSameSieve(nil, list)
		wantFail(t, "AreSameSieve", same, ok)
		same, ok = impl.AreSameSieve(list, nil)
		wantFail(t, "AreSameSieve", same, ok)
		left, ok := impl.IsLeft(list, 0)
		wantValue(t, "IsLeft needs no period", left, ok, false)
		moved, ok := impl.MoveRules(list, 0)
		wantValue(t, "MoveRules needs no period", moved, ok, list)
		mirrored, ok := impl.MirrorRules(list)
		wantValue(t, "MirrorRules needs no period", mirrored, ok, list)
	}
}

func TestGreatPeriods(t *testing.T) {
	list := rules(3, 0, 25, 0, 31, 0, 43, 0)
	needless, ok := impl.NeedlessRules(list)
	wantValue(t, "NeedlessRules", needless, ok, []int{})
	kept, ok := impl.DropNeedless(list)
	wantValue(t, "DropNeedless", kept, ok, list)
	same, ok := impl.AreSameSieve(list, list)
	wantValue(t, "AreSameSieve", same, ok, true)
	same, ok = impl.AreSameSieve(rules(3, 0, 25, 0), rules(31, 0, 43, 0))
	wantValue(t, "AreSameSieve", same, ok, false)
}

// TestEndsOfPeriod has rules of which the last one, put behind the others, is needed for just one number of the period: its last one, then its first one.
func TestEndsOfPeriod(t *testing.T) {
	first := oneIn864()
	for k := range first {
		first[k].Rest = (first[k].Rest + 1) % first[k].Every
	}
	for _, c := range []struct {
		list []impl.Rule
		rest int
	}{{oneIn864(), 31}, {first, 0}} {
		count, ok := impl.LeftInPeriod(c.list)
		wantValue(t, "LeftInPeriod", count, ok, 1)
		all := append(c.list, impl.Rule{Every: 32, Rest: c.rest})
		count, ok = impl.LeftInPeriod(all)
		wantValue(t, "LeftInPeriod", count, ok, 0)
		needless, ok := impl.NeedlessRules(all)
		wantValue(t, "NeedlessRules", needless, ok, upTo(5, 10))
		kept, ok := impl.DropNeedless(all)
		wantValue(t, "DropNeedless", kept, ok, append(all[:5:5], all[11]))
		same, ok := impl.AreSameSieve(c.list, all)
		wantValue(t, "AreSameSieve", same, ok, false)
	}
}

func TestLeftInPeriod(t *testing.T) {
	for text, want := range map[string]int{
		"-": 1, "2:0": 1, "2:0,3:1": 2, "2:0,2:0": 1, "60:0": 59, "60:59": 59, "2:0,2:1": 0, "4:0,6:1": 7,
		"3:0,25:0,31:0,43:0": 2 * 24 * 30 * 42, "8:7,3:0,5:4,49:48,17:16": 7 * 2 * 4 * 48 * 16,
	} {
		got, ok := impl.LeftInPeriod(readRules(t, text))
		wantValue(t, "LeftInPeriod of "+text, got, ok, want)
	}
}

func TestMoveRules(t *testing.T) {
	list := rules(2, 0, 3, 1, 60, 59)
	for by, want := range map[int][]impl.Rule{
		0: list, 1: rules(2, 1, 3, 2, 60, 0), 2: rules(2, 0, 3, 0, 60, 1), -1: rules(2, 1, 3, 0, 60, 58),
		-2: rules(2, 0, 3, 2, 60, 57), -61: rules(2, 1, 3, 0, 60, 58), 600: list, -600: list, 599: rules(2, 1, 3, 0, 60, 58),
	} {
		got, ok := impl.MoveRules(list, by)
		wantValue(t, "MoveRules", got, ok, want)
	}
	got, ok := impl.MoveRules(nil, 5)
	wantValue(t, "MoveRules of no rules", got, ok, []impl.Rule{})
	for _, by := range []int{-601, 601} {
		got, ok = impl.MoveRules(list, by)
		wantFail(t, "MoveRules beyond", got, ok)
	}
}

func TestMirrorRules(t *testing.T) {
	got, ok := impl.MirrorRules(rules(2, 0, 3, 1, 2, 1, 60, 59, 60, 1, 60, 0, 3, 1))
	wantValue(t, "MirrorRules", got, ok, rules(2, 0, 3, 2, 2, 1, 60, 1, 60, 59, 60, 0, 3, 2))
	got, ok = impl.MirrorRules(nil)
	wantValue(t, "MirrorRules of no rules", got, ok, []impl.Rule{})
}

func TestAreSameSieve(t *testing.T) {
	for _, c := range []struct {
		a, b string
		want bool
	}{
		{"-", "-", true}, {"-", "2:0", false}, {"2:0", "-", false}, {"2:0", "2:1", false}, {"2:0", "2:0", true},
		{"2:0,3:1", "3:1,2:0", true}, {"2:0,4:2", "2:0", true}, {"4:0,4:2", "2:0", true}, {"2:0", "4:0", false},
		{"2:0,2:1", "3:2,3:1,3:0", true}, {"2:0,2:1", "3:2,3:1", false}, {"3:0", "3:2", false}, {"60:59", "60:0", false},
	} {
		same, ok := impl.AreSameSieve(readRules(t, c.a), readRules(t, c.b))
		wantValue(t, "AreSameSieve of "+c.a+" and "+c.b, same, ok, c.want)
	}
	for _, c := range [][2]string{
		{"3:0,17:0", "37:0,53:0"}, {"16:0,7:0", "19:0,47:0"}, {"2:0,2:1,3:0,17:0", "2:0,2:1,37:0,53:0"},
	} {
		same, ok := impl.AreSameSieve(readRules(t, c[0]), readRules(t, c[1]))
		wantFail(t, "AreSameSieve, just beyond", same, ok)
	}
}

func TestRulesText(t *testing.T) {
	most := manyRules(impl.MaxRules, impl.Rule{Every: 60, Rest: 59})
	long := strings.Repeat("60:59,", impl.MaxRules-1) + "60:59"
	for _, c := range []struct {
		list []impl.Rule
		text string
	}{
		{nil, "-"}, {rules(2, 0), "2:0"}, {rules(2, 0, 3, 1), "2:0,3:1"}, {rules(3, 1, 2, 0, 3, 1), "3:1,2:0,3:1"}, {rules(60, 59, 10, 0), "60:59,10:0"}, {most, long},
	} {
		text, ok := impl.RulesText(c.list)
		wantValue(t, "RulesText", text, ok, c.text)
		list, ok := impl.ParseRules(c.text)
		wantValue(t, "ParseRules of "+c.text, list, ok, c.list)
	}
}

func TestParseNoRulesText(t *testing.T) {
	for _, s := range []string{
		"", " ", "--", "-,", "-,2:0", "2:0,-", ",", ":", "2", "2:", ":0", "2:0,", ",2:0", "2:0,,3:1", "2:0:0", "2:0;3:1", "2:0 3:1", "2,0",
		"02:0", "2:00", "10:01", "2:0,03:1", "+2:0", "2:+0", "-2:0", "2:-0", "2:-1", "3:1,-3:1",
		" 2:0", "2:0 ", "2 :0", "2: 0", "2:0, 3:1", "2:0\n", "\t2:0", "2:0\x00", " -", "- ",
		"1:0", "0:0", "61:0", "2:2", "60:60", "3:3,2:0", "2:0,1:0", "100:0", "99999999999999999999:0", "2:99999999999999999999", "18446744073709551618:0",
		"0x2:0", "2:0x0", "2_0:0", "1e1:0", "2.0:0", "a:b", "\u0662:0", "\xff", "2:\xff",
		strings.Repeat("2:0,", impl.MaxRules) + "2:0", strings.Repeat("60:59,", impl.MaxRules) + "60:59", strings.Repeat("2", 100000), strings.Repeat(",", 100000),
	} {
		list, ok := impl.ParseRules(s)
		wantFail(t, "ParseRules", list, ok)
	}
}

// TestExampleOfSieves has what the document's example says that no other test has.
func TestExampleOfSieves(t *testing.T) {
	list := readRules(t, "2:0,3:1")
	period, ok := impl.PeriodOfRules(list)
	wantValue(t, "PeriodOfRules", period, ok, 6)
	for n := range period {
		left, ok := impl.IsLeft(list, n)
		wantValue(t, "IsLeft", left, ok, n == 3 || n == 5)
	}
	moved, ok := impl.MoveRules(list, 1)
	wantValue(t, "MoveRules", moved, ok, readRules(t, "2:1,3:2"))
	mirrored, ok := impl.MirrorRules(list)
	wantValue(t, "MirrorRules", mirrored, ok, readRules(t, "2:0,3:2"))
}
