package tests

// Promise 1 for many rules: each function does what its description says in the plainest words.

import (
	"regexp"
	"slices"
	"strings"
	"testing"

	"loop.example/g01235/impl"
)

// plainLeft returns the numbers in low..high that are left.
func plainLeft(list []impl.Rule, low int, high int) []int {
	return slices.DeleteFunc(upTo(low, high), func(n int) bool { return crossedOut(list, n) })
}

// plainFirst returns the index of the first rule that crosses n out, or -1.
func plainFirst(list []impl.Rule, n int) int {
	for k := range list {
		if crossedOut(list[k:k+1], n) {
			return k
		}
	}
	return -1
}

func TestSingleNumbers(t *testing.T) {
	for _, list := range someRules(40, 1) {
		for n := -impl.MaxNumber; n <= impl.MaxNumber; n++ {
			left, ok := impl.IsLeft(list, n)
			wantValue(t, "IsLeft", left, ok, !crossedOut(list, n))
			first, ok := impl.FirstRule(list, n)
			if plainFirst(list, n) < 0 {
				wantFail(t, "FirstRule", first, ok)
			} else {
				wantValue(t, "FirstRule", first, ok, plainFirst(list, n))
			}
			next, ok := impl.NextLeft(list, n)
			if behind := plainLeft(list, n+1, n+120); len(behind) > 0 {
				wantValue(t, "NextLeft", next, ok, behind[0])
			}
		}
	}
}

func TestListsOfNumbers(t *testing.T) {
	for _, list := range someRules(200, 2) {
		for _, most := range []int{0, 1, 30, 299, 600} {
			want := plainLeft(list, 1, most)
			numbers, ok := impl.LeftUpTo(list, most)
			wantValue(t, "LeftUpTo", numbers, ok, want)
			count, ok := impl.CountLeft(list, most)
			wantValue(t, "CountLeft", count, ok, len(want))
			for _, low := range []int{0, 1, 17, 300, 600} {
				count, ok = impl.CountBetween(list, low, most)
				wantValue(t, "CountBetween", count, ok, len(plainLeft(list, low, most)))
			}
			for k := range list {
				crossed := slices.DeleteFunc(upTo(1, most), func(n int) bool { return plainFirst(list, n) != k })
				numbers, ok = impl.CrossedBy(list, k, most)
				wantValue(t, "CrossedBy", numbers, ok, crossed)
			}
		}
	}
}

func TestRanksTellBack(t *testing.T) {
	for _, list := range someRules(100, 3) {
		numbers, _ := impl.LeftUpTo(list, impl.MaxNumber)
		for rank, n := range numbers {
			got, ok := impl.LeftOfRank(list, rank)
			wantValue(t, "LeftOfRank", got, ok, n)
			count, ok := impl.CountLeft(list, n-1)
			wantValue(t, "CountLeft", count, ok, rank)
		}
		got, ok := impl.LeftOfRank(list, len(numbers))
		wantFail(t, "LeftOfRank behind the end", got, ok)
	}
}

func TestSievesComeAgain(t *testing.T) {
	for _, list := range someRules(200, 4) {
		want := plainPeriod(list)
		period, ok := impl.PeriodOfRules(list)
		count, counted := impl.LeftInPeriod(list)
		if want == 0 {
			wantFail(t, "PeriodOfRules", period, ok)
			wantFail(t, "LeftInPeriod", count, counted)
			continue
		}
		wantValue(t, "PeriodOfRules", period, ok, want)
		wantValue(t, "LeftInPeriod", count, counted, len(plainLeft(list, -5, want-6)))
		for n := -impl.MaxNumber; n+period <= impl.MaxNumber; n++ {
			here, ok := impl.IsLeft(list, n)
			there, fine := impl.IsLeft(list, n+period)
			if !ok || !fine || here != there {
				t.Fatal("the sieve does not come again", list, n, period)
			}
		}
	}
}

func TestNeedlessLeaveSame(t *testing.T) {
	for _, list := range someRules(200, 5) {
		period := plainPeriod(list)
		if period == 0 {
			continue
		}
		var needless []int
		for k := range list {
			if leavesSame(list, without(list, k), period) {
				needless = append(needless, k)
			}
		}
		got, ok := impl.NeedlessRules(list)
		wantValue(t, "NeedlessRules", got, ok, needless)
		kept := list
		for k := len(list) - 1; k >= 0; k-- {
			if leavesSame(kept, without(kept, k), period) {
				kept = without(kept, k)
			}
		}
		dropped, ok := impl.DropNeedless(list)
		wantValue(t, "DropNeedless", dropped, ok, kept)
		same, ok := impl.AreSameSieve(list, dropped)
		wantValue(t, "AreSameSieve", same, ok, true)
	}
}

func TestMovesAndMirrors(t *testing.T) {
	for i, list := range someRules(200, 6) {
		mirrored, mirroredOK := impl.MirrorRules(list)
		wantSameEvery(t, list, mirrored, mirroredOK)
		by := i*7%1201 - impl.MaxNumber
		moved, movedOK := impl.MoveRules(list, by)
		wantSameEvery(t, list, moved, movedOK)
		for n := -impl.MaxNumber; n <= impl.MaxNumber; n++ {
			if crossedOut(mirrored, -n) != crossedOut(list, n) {
				t.Fatal("not mirrored", list, mirrored)
			}
			if crossedOut(moved, n+by) != crossedOut(list, n) {
				t.Fatal("not moved", list, by, moved)
			}
		}
	}
}

// wantSameEvery checks that one rule came of each rule.
func wantSameEvery(t *testing.T, list []impl.Rule, got []impl.Rule, ok bool) {
	t.Helper()
	if !ok || len(got) != len(list) || !impl.AreRules(got) {
		t.Fatal("no such rules", list, got)
	}
	for k := range list {
		if got[k].Every != list[k].Every {
			t.Fatal("another Every", list, got)
		}
	}
}

func TestSameSieves(t *testing.T) {
	lists := someRules(40, 7)
	for _, a := range lists {
		for _, b := range lists {
			common := plainPeriod(append(slices.Clone(a), b...))
			same, ok := impl.AreSameSieve(a, b)
			if common == 0 {
				wantFail(t, "AreSameSieve", same, ok)
			} else {
				wantValue(t, "AreSameSieve", same, ok, leavesSame(a, b, common))
			}
		}
	}
}

func TestTextsTellBack(t *testing.T) {
	for _, list := range someRules(300, 8) {
		text, ok := impl.RulesText(list)
		wantValue(t, "readRules", readRules(t, text), ok, list)
		back, ok := impl.ParseRules(text)
		wantValue(t, "ParseRules", back, ok, list)
	}
}

// TestChangedTexts changes each byte of texts to some others: what is read must be written so.
func TestChangedTexts(t *testing.T) {
	written := regexp.MustCompile(`^(-|([2-9]|[1-5][0-9]|60):(0|[1-9]|[1-5][0-9])(,([2-9]|[1-5][0-9]|60):(0|[1-9]|[1-5][0-9]))*)$`)
	for _, list := range someRules(30, 9) {
		text, _ := impl.RulesText(list)
		for i := range len(text) + 1 {
			for _, c := range []string{"", "0", "1", "6", "9", ":", ",", "-", "+", " ", "\n", "\xb2"} {
				wantReadAsWritten(t, written, text[:i]+c+text[i:])
				if i < len(text) {
					wantReadAsWritten(t, written, text[:i]+c+text[i+1:])
				}
			}
		}
	}
}

func wantReadAsWritten(t *testing.T, written *regexp.Regexp, text string) {
	t.Helper()
	list, ok := impl.ParseRules(text)
	if !written.MatchString(text) || strings.Count(text, ",") >= impl.MaxRules {
		wantFail(t, "ParseRules of "+text, list, ok)
		return
	}
	if want := readRules(t, text); impl.AreRules(want) {
		wantValue(t, "ParseRules of "+text, list, ok, want)
	} else {
		wantFail(t, "ParseRules of "+text, list, ok)
	}
}
