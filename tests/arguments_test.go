package tests

// Promise 11: every function accepts all arguments without panicking and modifies none of them.

import (
	"math"
	"reflect"
	"runtime"
	"slices"
	"strings"
	"testing"
	"time"

	"loop.example/g01235/impl"
)

// call is a call of a function with arguments that are chosen already.
type call struct {
	name string
	run  func() []any
}

func results(values ...any) []any { return values }

// sieveCalls returns a call of each function of chapter 1 that takes rules and a last bool, with the rules and numbers given.
func sieveCalls(list []impl.Rule, other []impl.Rule, n int, most int) []call {
	return []call{
		{"IsLeft", func() []any { return results(impl.IsLeft(list, n)) }},
		{"FirstRule", func() []any { return results(impl.FirstRule(list, n)) }},
		{"LeftUpTo", func() []any { return results(impl.LeftUpTo(list, most)) }},
		{"CountLeft", func() []any { return results(impl.CountLeft(list, most)) }},
		{"CountBetween", func() []any { return results(impl.CountBetween(list, n, most)) }},
		{"LeftOfRank", func() []any { return results(impl.LeftOfRank(list, n)) }},
		{"NextLeft", func() []any { return results(impl.NextLeft(list, n)) }},
		{"CrossedBy", func() []any { return results(impl.CrossedBy(list, n, most)) }},
		{"NeedlessRules", func() []any { return results(impl.NeedlessRules(list)) }},
		{"DropNeedless", func() []any { return results(impl.DropNeedless(list)) }},
		{"PeriodOfRules", func() []any { return results(impl.PeriodOfRules(list)) }},
		{"LeftInPeriod", func() []any { return results(impl.LeftInPeriod(list)) }},
		{"MoveRules", func() []any { return results(impl.MoveRules(list, n)) }},
		{"MirrorRules", func() []any { return results(impl.MirrorRules(list)) }},
		{"AreSameSieve", func() []any { return results(impl.AreSameSieve(list, other)) }},
		{"AreSameSieve back", func() []any { return results(impl.AreSameSieve(other, list)) }},
		{"RulesText", func() []any { return results(impl.RulesText(list)) }},
	}
}

// wrongRules returns lists that are no rules.
func wrongRules() [][]impl.Rule {
	lists := [][]impl.Rule{
		manyRules(impl.MaxRules+1, impl.Rule{Every: 2}),
		manyRules(1000, impl.Rule{Every: 60, Rest: 59}),
	}
	wrong := rules(0, 0, 1, 0, 61, 0, 2, 2, 60, 60, 2, -1, -1, 0, -2, -1, math.MinInt, 0, math.MaxInt, 0, 2, math.MinInt, 2, math.MaxInt, math.MinInt, math.MinInt, math.MaxInt, math.MaxInt)
	for _, r := range wrong {
		lists = append(lists, []impl.Rule{r}, append(rules(2, 0, 3, 1), r), append([]impl.Rule{r}, rules(2, 0, 3, 1)...))
	}
	return lists
}

// wantNoPanic returns the results of a call, none if it panicked.
func wantNoPanic(t *testing.T, c call) (values []any) {
	t.Helper()
	defer func() {
		if p := recover(); p != nil {
			t.Errorf("%s panics: %v", c.name, p)
		}
	}()
	return c.run()
}

// wantZeros checks that every result is its zero value, the last bool too.
func wantZeros(t *testing.T, name string, values []any) {
	t.Helper()
	for _, v := range values {
		if !isZero(v) {
			t.Errorf("%s fails with %v", name, values)
		}
	}
}

// wantTotal checks of a call that it does not panic, and fails with zero values if it fails.
func wantTotal(t *testing.T, c call) {
	t.Helper()
	values := wantNoPanic(t, c)
	if len(values) > 0 && values[len(values)-1] == false {
		wantZeros(t, c.name, values)
	}
}

// wantSuccess checks that the last result of a call is true.
func wantSuccess(t *testing.T, c call) {
	t.Helper()
	values := wantNoPanic(t, c)
	if len(values) == 0 || values[len(values)-1] != true {
		t.Error(c.name, "fails", values)
	}
}

// wantEdges calls each function that has edges, its least and its greatest valid number, with these and with the numbers next to them.
func wantEdges(t *testing.T, calls func(n int) []call, edges map[string][2]int) {
	t.Helper()
	found := 0
	for i, c := range calls(0) {
		edge, ok := edges[c.name]
		if !ok {
			continue
		}
		found++
		for _, n := range edge {
			wantSuccess(t, call{of(c.name, n), calls(n)[i].run})
		}
		// One more than the greatest int is the least one.
		for _, n := range []int{edge[0] - 1, edge[1] + 1} {
			wantZeros(t, of(c.name, n), wantNoPanic(t, calls(n)[i]))
		}
	}
	if found != len(edges) {
		t.Error("the test has edges of a function that is not called")
	}
}

// withEdges returns the edges, with low and high as those of each function that has none.
func withEdges(calls []call, edges map[string][2]int, low int, high int) map[string][2]int {
	for _, c := range calls {
		if _, ok := edges[c.name]; !ok {
			edges[c.name] = [2]int{low, high}
		}
	}
	return edges
}

// wantLimits checks that a call with one of the numbers succeeds exactly if that is within the edges of the function.
func wantLimits(t *testing.T, calls func(n int) []call, edges map[string][2]int, numbers []int) {
	t.Helper()
	for _, n := range numbers {
		for _, c := range calls(n) {
			if edge := edges[c.name]; n >= edge[0] && n <= edge[1] {
				wantSuccess(t, call{of(c.name, n), c.run})
			} else {
				wantZeros(t, of(c.name, n), wantNoPanic(t, c))
			}
		}
	}
}

func TestWrongRules(t *testing.T) {
	for _, list := range wrongRules() {
		if impl.AreRules(list) {
			t.Error("these are rules:", list)
		}
		for _, c := range sieveCalls(list, rules(2, 0), 0, 10) {
			wantZeros(t, c.name, wantNoPanic(t, c))
		}
	}
}

func TestWrongNumbers(t *testing.T) {
	list := rules(2, 0, 3, 1)
	for _, n := range []int{-601, 601, 100000, -100000, math.MinInt, math.MaxInt, math.MinInt + 1} {
		for _, c := range []call{
			{"IsLeft", func() []any { return results(impl.IsLeft(list, n)) }},
			{"FirstRule", func() []any { return results(impl.FirstRule(list, n)) }},
			{"LeftUpTo", func() []any { return results(impl.LeftUpTo(list, n)) }},
			{"CountLeft", func() []any { return results(impl.CountLeft(list, n)) }},
			{"CountBetween low", func() []any { return results(impl.CountBetween(list, n, 5)) }},
			{"CountBetween high", func() []any { return results(impl.CountBetween(list, 5, n)) }},
			{"LeftOfRank", func() []any { return results(impl.LeftOfRank(list, n)) }},
			{"NextLeft", func() []any { return results(impl.NextLeft(list, n)) }},
			{"CrossedBy k", func() []any { return results(impl.CrossedBy(list, n, 5)) }},
			{"CrossedBy most", func() []any { return results(impl.CrossedBy(list, 0, n)) }},
			{"MoveRules", func() []any { return results(impl.MoveRules(list, n)) }},
		} {
			wantZeros(t, c.name, wantNoPanic(t, c))
		}
	}
}

// TestAllArguments calls every function with all that is at hand: none panics, and what fails returns zero values.
func TestAllArguments(t *testing.T) {
	lists := append(wrongRules(), nil, rules(2, 0), nothingLeft(), oneIn864(), manyRules(impl.MaxRules, impl.Rule{Every: 60, Rest: 59}))
	lists = append(lists, longPeriods()...)
	numbers := []int{math.MinInt, math.MinInt + 1, -601, -600, -1, 0, 1, 11, 12, 600, 601, 1 << 32, math.MaxInt - 1, math.MaxInt}
	for i, list := range lists {
		for _, n := range numbers {
			for _, most := range numbers {
				for _, c := range sieveCalls(list, lists[len(lists)-1-i], n, most) {
					wantTotal(t, c)
				}
			}
		}
	}
}

func TestAllRules(t *testing.T) {
	numbers := []int{math.MinInt, -61, -60, -2, -1, 0, 1, 2, 3, 59, 60, 61, math.MaxInt}
	for _, every := range numbers {
		for _, rest := range numbers {
			want := every >= 2 && every <= 60 && rest >= 0 && rest < every
			r := impl.Rule{Every: every, Rest: rest}
			for _, c := range []call{
				{"IsRule", func() []any { return results(impl.IsRule(r)) }},
				{"AreRules", func() []any { return results(impl.AreRules([]impl.Rule{r})) }},
			} {
				if values := wantNoPanic(t, c); len(values) != 1 || values[0] != want {
					t.Errorf("%s of %v is %v", c.name, r, values)
				}
			}
		}
	}
}

func TestAllTexts(t *testing.T) {
	for _, s := range []string{"", "\x00", "\xff\xfe", "2:0,\xc3", strings.Repeat("2:0,", 1<<18), strings.Repeat("9", 1<<20), strings.Repeat(":", 1<<20), "2:" + strings.Repeat("0", 100)} {
		wantZeros(t, "ParseRules", wantNoPanic(t, call{"ParseRules", func() []any { return results(impl.ParseRules(s)) }}))
	}
}

// withSpare returns the list as the beginning of a longer one, which is returned too.
func withSpare[T any](list []T, behind T) ([]T, []T) {
	long := append(slices.Clone(list), slices.Repeat([]T{behind}, 20)...)
	return long[:len(list)], long
}

// spoil overwrites all memory of the slices among the results, also of those in desks.
func spoil(values []any) {
	for _, value := range values {
		if d, ok := value.(impl.Desk); ok {
			value = d.Rules
		}
		v := reflect.ValueOf(value)
		if v.Kind() != reflect.Slice {
			continue
		}
		all := v.Slice(0, v.Cap())
		for i := range all.Len() {
			switch e := all.Index(i).Addr().Interface().(type) {
			case *int:
				*e = -77
			case *string:
				*e = "spoiled"
			case *impl.Rule:
				*e = impl.Rule{Every: -77, Rest: -77}
			case *[]int:
				spoil([]any{*e})
				*e = []int{-77}
			case *[]impl.Rule:
				spoil([]any{*e})
				*e = rules(-77, -77)
			}
		}
	}
}

// copied returns the results with slices of their own, so that they can be compared later.
func copied(values []any) []any {
	copies := slices.Clone(values)
	for i, value := range values {
		switch v := value.(type) {
		case []int:
			copies[i] = slices.Clone(v)
		case []string:
			copies[i] = slices.Clone(v)
		case []impl.Rule:
			copies[i] = slices.Clone(v)
		case impl.Desk:
			copies[i] = impl.Desk{Rules: slices.Clone(v.Rules), Most: v.Most}
		case [][]int:
			copies[i] = copiedLists(v)
		case [][]impl.Rule:
			copies[i] = copiedLists(v)
		}
	}
	return copies
}

// copiedLists returns a list of lists with memory of its own.
func copiedLists[T any](lists [][]T) [][]T {
	copies := slices.Clone(lists)
	for i, list := range lists {
		copies[i] = slices.Clone(list)
	}
	return copies
}

// sharingLists are lists of which some functions change nothing, so that to hand them out again would be easy.
func sharingLists() [][]impl.Rule {
	return [][]impl.Rule{{}, rules(2, 0), rules(2, 0, 3, 1), rules(2, 0, 2, 0, 4, 2), nothingLeft(), manyRules(impl.MaxRules, impl.Rule{Every: 2, Rest: 1})}
}

// allSieveCalls returns a call of each function of chapter 1 that takes a list of rules.
func allSieveCalls(list []impl.Rule) []call {
	are := call{"AreRules", func() []any { return results(impl.AreRules(list)) }}
	return append(sieveCalls(list, list, 0, 50), are)
}

// wantArgumentStays checks that no call changes the list or what is behind it, or shares memory with it.
func wantArgumentStays[T comparable](t *testing.T, list []T, behind T, calls func(list []T) []call) {
	t.Helper()
	short, long := withSpare(list, behind)
	before := slices.Clone(long)
	for _, c := range calls(short) {
		values := wantNoPanic(t, c)
		if !slices.Equal(long, before) {
			t.Fatal(c.name, "changes its argument", list)
		}
		spoil(values)
		if !slices.Equal(long, before) {
			t.Fatal(c.name, "shares memory with its argument", list)
		}
	}
}

// wantResultsStay changes the arguments behind a call, and calls again when the first results are spoiled.
func wantResultsStay[T comparable](t *testing.T, list []T, behind T, calls func(list []T) []call) {
	t.Helper()
	short, long := withSpare(list, behind)
	before := slices.Clone(long)
	for _, c := range calls(short) {
		values := wantNoPanic(t, c)
		first := copied(values)
		spoil([]any{long})
		if !sameResults(values, first) {
			t.Error(c.name, "keeps its argument in its result", list)
		}
		copy(long, before)
		spoil(values)
		if again := wantNoPanic(t, c); !sameResults(again, first) {
			t.Error(c.name, "returns something else again", list, first, again)
		}
	}
}

// wantNewResults spoils what a call returned, looks at what another such call returned before, and calls again.
func wantNewResults(t *testing.T, c call) {
	t.Helper()
	values, others := wantNoPanic(t, c), wantNoPanic(t, c)
	first := copied(values)
	spoil(values)
	if !sameResults(others, first) {
		t.Error(c.name, "returns the same memory twice", first, others)
	}
	if again := wantNoPanic(t, c); !sameResults(again, first) {
		t.Error(c.name, "returns something else again", first, again)
	}
}

// wantSpareUnread checks that it does not matter what is behind the length of the list.
func wantSpareUnread[T comparable](t *testing.T, list []T, behind T, calls func(list []T) []call) {
	t.Helper()
	short, _ := withSpare(list, behind)
	exact := calls(slices.Clip(slices.Clone(list)))
	for i, c := range calls(short) {
		if !sameResults(wantNoPanic(t, c), wantNoPanic(t, exact[i])) {
			t.Error(c.name, "reads behind the length", list, behind)
		}
	}
}

// wantListsApart writes to all memory of each list of a result: none of it is another one's.
func wantListsApart(t *testing.T, name string, lists [][]int) {
	t.Helper()
	wantMarksApart(t, name, lists, func(i int) int { return -1 - i })
}

// wantRuleListsApart does so with lists of rules.
func wantRuleListsApart(t *testing.T, name string, lists [][]impl.Rule) {
	t.Helper()
	wantMarksApart(t, name, lists, func(i int) impl.Rule { return impl.Rule{Every: -1 - i} })
}

// wantMarksApart writes the mark of each list to all of its memory.
func wantMarksApart[T comparable](t *testing.T, name string, lists [][]T, mark func(i int) T) {
	t.Helper()
	for i, list := range lists {
		all := list[:cap(list)]
		for k := range all {
			all[k] = mark(i)
		}
	}
	for i, list := range lists {
		if slices.ContainsFunc(list[:cap(list)], func(element T) bool { return element != mark(i) }) {
			t.Error("two lists of", name, "share memory", lists)
		}
	}
}

// wantNoMoreGoroutines waits for some time until there are no more goroutines than before.
func wantNoMoreGoroutines(t *testing.T, before int) {
	t.Helper()
	for range 100 {
		if runtime.NumGoroutine() <= before {
			return
		}
		time.Sleep(10 * time.Millisecond)
	}
	t.Error("goroutines are left:", runtime.NumGoroutine()-before)
}

func TestRulesStay(t *testing.T) {
	for _, list := range sharingLists() {
		wantResultsStay(t, list, impl.Rule{Every: 2}, allSieveCalls)
		for _, behind := range rules(2, 0, 2, 1, 3, 0, 0, 0, 0, -5) {
			wantArgumentStays(t, list, behind, allSieveCalls)
			wantSpareUnread(t, list, behind, allSieveCalls)
		}
	}
}

func sameResults(a []any, b []any) bool {
	return slices.EqualFunc(a, b, isSame)
}

// TestParsedRulesAreNew spoils what was read and reads it again.
func TestParsedRulesAreNew(t *testing.T) {
	for _, s := range []string{"-", "2:0", "2:0,3:1,60:59"} {
		for range 2 {
			list, ok := impl.ParseRules(s)
			wantValue(t, "ParseRules of "+s, list, ok, readRules(t, s))
			spoil(results(list))
		}
	}
}
