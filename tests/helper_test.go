package tests

import (
	"math/rand"
	"reflect"
	"slices"
	"strconv"
	"strings"
	"testing"

	"loop.example/g01235/impl"
)

// rules returns the rules with the given numbers, Every and Rest in turn.
func rules(numbers ...int) []impl.Rule {
	list := make([]impl.Rule, 0, len(numbers)/2)
	for i := 0; i+1 < len(numbers); i += 2 {
		list = append(list, impl.Rule{Every: numbers[i], Rest: numbers[i+1]})
	}
	return list
}

// manyRules returns so many rules that are all the same.
func manyRules(count int, r impl.Rule) []impl.Rule {
	return slices.Repeat([]impl.Rule{r}, count)
}

// wantValue checks a result and the bool behind it, which is to be true.
func wantValue(t *testing.T, what string, got any, ok bool, want any) {
	t.Helper()
	if !ok {
		t.Errorf("%s failed, want %v", what, want)
	} else if !isSame(got, want) {
		t.Errorf("%s is %v, want %v", what, got, want)
	}
}

// wantFail checks that a call failed with the zero value of its result.
func wantFail(t *testing.T, what string, got any, ok bool) {
	t.Helper()
	if ok {
		t.Errorf("%s is %v, want it to fail", what, got)
	} else if !isZero(got) {
		t.Errorf("%s failed with %v, want the zero value", what, got)
	}
}

// isSame compares values; a nil slice and an empty one are the same, also in a desk.
func isSame(a any, b any) bool {
	if isEmptySlice(a) && isEmptySlice(b) {
		return true
	}
	d, isDesk := a.(impl.Desk)
	other, isOther := b.(impl.Desk)
	if isDesk && isOther {
		return d.Most == other.Most && slices.Equal(d.Rules, other.Rules)
	}
	return reflect.DeepEqual(a, b)
}

func isZero(a any) bool {
	return isEmptySlice(a) || isSame(a, impl.Desk{}) || reflect.ValueOf(a).IsZero()
}

func isEmptySlice(a any) bool {
	v := reflect.ValueOf(a)
	return !v.IsValid() || v.Kind() == reflect.Slice && v.Len() == 0
}

// crossedOut says anew, without a remainder, what a rule crosses out.
func crossedOut(list []impl.Rule, n int) bool {
	for _, r := range list {
		if (n-r.Rest)%r.Every == 0 {
			return true
		}
	}
	return false
}

// plainPeriod finds the period by trying, or 0 if it is more than 100000.
func plainPeriod(list []impl.Rule) int {
	for p := 1; p <= 100000; p++ {
		if !slices.ContainsFunc(list, func(r impl.Rule) bool { return p%r.Every != 0 }) {
			return p
		}
	}
	return 0
}

// leavesSame compares two lists of rules number by number.
func leavesSame(a []impl.Rule, b []impl.Rule, period int) bool {
	for n := range period {
		if crossedOut(a, n) != crossedOut(b, n) {
			return false
		}
	}
	return true
}

// without returns the list without the rule with the index k.
func without(list []impl.Rule, k int) []impl.Rule {
	return slices.Concat(list[:k], list[k+1:])
}

// someRules returns count lists of rules, the same ones for each run, most of them with short periods.
func someRules(count int, seed int64) [][]impl.Rule {
	random := rand.New(rand.NewSource(seed))
	everies := []int{2, 2, 3, 3, 4, 4, 5, 6, 6, 8, 9, 10, 12, 15, 20, 30, 60}
	lists := make([][]impl.Rule, count)
	for i := range lists {
		for range random.Intn(impl.MaxRules + 1) {
			every := everies[random.Intn(len(everies))]
			if random.Intn(40) == 0 {
				every = 2 + random.Intn(59)
			}
			lists[i] = append(lists[i], impl.Rule{Every: every, Rest: random.Intn(every)})
		}
	}
	return lists
}

// readRules reads a RulesText that is one, without the program.
func readRules(t *testing.T, text string) []impl.Rule {
	t.Helper()
	var list []impl.Rule
	if text == "-" {
		return list
	}
	for _, part := range strings.Split(text, ",") {
		every, rest, _ := strings.Cut(part, ":")
		e, errE := strconv.Atoi(every)
		r, errR := strconv.Atoi(rest)
		if errE != nil || errR != nil {
			t.Fatal("the test has a wrong text", text)
		}
		list = append(list, impl.Rule{Every: e, Rest: r})
	}
	return list
}

// wordsOf returns numbers with blanks between them.
func wordsOf(numbers []int) string {
	words := make([]string, len(numbers))
	for i, n := range numbers {
		words[i] = strconv.Itoa(n)
	}
	return strings.Join(words, " ")
}

// of returns the name of a call with one number.
func of(name string, n int) string { return name + " of " + strconv.Itoa(n) }
