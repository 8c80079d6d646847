package tests

import (
	"fmt"
	"math"
	"math/rand"
	"reflect"
	"slices"
	"strings"
	"testing"

	"loop.example/g00035/impl"
)

func TestLimitsOfQueries(t *testing.T) {
	limits := []int{impl.MaxQuery, impl.MaxCols, impl.MaxSteps, impl.MaxGets, impl.MaxSources}
	if !slices.Equal(limits, []int{1000, 12, 60, 8, 10}) {
		t.Error("a limit is another than the document's:", limits)
	}
	ops := []int{impl.StepNum, impl.StepCol, impl.StepAdd, impl.StepSub, impl.StepMul, impl.StepDiv, impl.StepMod, impl.StepLess, impl.StepSame, impl.StepAnd, impl.StepOr, impl.StepNot}
	if !slices.Equal(ops, numbersFrom(1, 12)) {
		t.Error("an Op is another than the document's:", ops)
	}
	kinds := []int{impl.WinNone, impl.WinTumble, impl.WinHop, impl.WinSession, impl.GetValue, impl.GetCount, impl.GetSum, impl.GetLeast, impl.GetMost}
	if !slices.Equal(kinds, []int{0, 1, 2, 3, 0, 1, 2, 3, 4}) {
		t.Error("a window or a Get is another than the document's:", kinds)
	}
}

// opsAsTold has the word of each Op that takes something at its number.
var opsAsTold = []string{"", "", "", "+", "-", "*", "/", "%", "<", "=", "and", "or", "not"}

// stepsIn reads an expression from words in the order in which they are done.
func stepsIn(text string) []impl.Step {
	list := []impl.Step{}
	for _, word := range strings.Fields(text) {
		s := impl.Step{Op: slices.Index(opsAsTold, word)}
		if s.Op < 0 {
			s = impl.Step{Op: 2, Name: word}
			if n, err := fmt.Sscan(word, &s.Num); n == 1 && err == nil {
				s.Op, s.Name = 1, ""
			}
		}
		list = append(list, s)
	}
	return list
}

// nots is an expression of so many steps.
func nots(count int) []impl.Step {
	return stepsIn("a" + strings.Repeat(" not", count-1))
}

// sums is an expression of so many steps, an odd number.
func sums(count int) []impl.Step {
	return stepsIn("a" + strings.Repeat(" b +", count/2))
}

// A tree is an expression: its last step, and what that takes.
type tree struct {
	step  impl.Step
	below []tree
}

func stepOkAsTold(s impl.Step) bool {
	switch {
	case s.Op == 1:
		return inBounds(s.Num, 0, 1000000000000000) && s.Name == ""
	case s.Op == 2:
		return s.Num == 0 && nameForm.MatchString(s.Name)
	}
	return inBounds(s.Op, 3, 12) && s == impl.Step{Op: s.Op}
}

// treeOf takes a tree from the end of some steps, and tells what is left of them.
func treeOf(steps []impl.Step) (tree, []impl.Step, bool) {
	if len(steps) == 0 || !stepOkAsTold(steps[len(steps)-1]) {
		return tree{}, nil, false
	}
	x, rest := tree{step: steps[len(steps)-1]}, steps[:len(steps)-1]
	takes := 2
	switch x.step.Op {
	case 1, 2:
		takes = 0
	case 12:
		takes = 1
	}
	for range takes {
		below, left, ok := treeOf(rest)
		if !ok {
			return tree{}, nil, false
		}
		x.below, rest = append([]tree{below}, x.below...), left
	}
	return x, rest, true
}

// expressionAsTold is the tree of steps that are an expression.
func expressionAsTold(steps []impl.Step) (tree, bool) {
	x, rest, ok := treeOf(steps)
	return x, ok && len(rest) == 0 && len(steps) <= 60
}

func expressionOkAsTold(steps []impl.Step) bool {
	_, ok := expressionAsTold(steps)
	return ok
}

func colsOkAsTold(cols []string) bool {
	times := map[string]int{}
	ok := len(cols) <= 12
	for _, col := range cols {
		times[col]++
		ok = ok && times[col] == 1 && nameForm.MatchString(col)
	}
	return ok
}

func getOkAsTold(g impl.Get, groups int) bool {
	ok := nameForm.MatchString(g.As) && inBounds(g.Kind, 0, 4) && (g.Kind == 0) == (groups == 0)
	if g.Kind == 1 {
		return ok && len(g.Steps) == 0
	}
	return ok && expressionOkAsTold(g.Steps)
}

func queryOkAsTold(q impl.Query) bool {
	ok := nameForm.MatchString(q.From) && colsOkAsTold(q.Groups) && inBounds(len(q.Gets), 1, 8)
	ok = ok && (q.Join == "" || nameForm.MatchString(q.Join)) && (q.Lookup == "" || nameForm.MatchString(q.Lookup)) && (q.Join == "" || q.Lookup == "")
	ok = ok && (q.Join != "" && inBounds(q.Within, 0, 1000000000000) || q.Within == 0)
	ok = ok && nameForm.MatchString(q.On) == (q.Join != "" || q.Lookup != "") && (q.Join+q.Lookup != "" || q.On == "")
	ok = ok && (len(q.Where) == 0 || expressionOkAsTold(q.Where))
	ok = ok && inBounds(q.Window, 0, 3) && (q.Window == 0 || len(q.Groups) > 0)
	ok = ok && (q.Window == 0 && q.Size == 0 || q.Window != 0 && inBounds(q.Size, 1, 1000000000000))
	ok = ok && (q.Window != 2 && q.Every == 0 || q.Window == 2 && inBounds(q.Every, 1, q.Size) && (q.Size-1)/20 < q.Every)
	for _, g := range q.Gets {
		ok = ok && getOkAsTold(g, len(q.Groups))
	}
	return ok
}

// plainQuery is a query in memory of its own that is compared as a whole: no empty list is in it.
func plainQuery(q impl.Query) impl.Query {
	q.Where, q.Groups, q.Gets = append([]impl.Step(nil), q.Where...), append([]string(nil), q.Groups...), append([]impl.Get(nil), q.Gets...)
	for i, g := range q.Gets {
		q.Gets[i].Steps = append([]impl.Step(nil), g.Steps...)
	}
	return q
}

func sameQuery(a impl.Query, b impl.Query) bool {
	return reflect.DeepEqual(plainQuery(a), plainQuery(b))
}

func getting(kind int, steps string, as string) impl.Get {
	return impl.Get{Kind: kind, Steps: stepsIn(steps), As: as}
}

// plainest has no part that may be missing.
func plainest() impl.Query {
	return impl.Query{From: "orders", Gets: []impl.Get{getting(0, "a", "x")}}
}

// grouping has Groups and no Window.
func grouping() impl.Query {
	return impl.Query{From: "orders", Groups: []string{"a", "b"}, Gets: []impl.Get{getting(1, "", "n"), getting(2, "a b +", "s"), getting(3, "b", "l"), getting(4, "a not", "m")}}
}

// richest has all parts that may stand together.
func richest() impl.Query {
	q := grouping()
	q.Join, q.Within, q.On, q.Where = "clicks", 5, "a", stepsIn("a b < 3 or")
	q.Window, q.Size, q.Every = 2, 10, 5
	return q
}

// looking has a Lookup.
func looking() impl.Query {
	q := plainest()
	q.Lookup, q.On = "users", "a"
	return q
}

// tumbling has the window that takes a Size alone.
func tumbling() impl.Query {
	q := grouping()
	q.Window, q.Size = 1, 10
	return q
}

func someQueries() map[string]impl.Query {
	session := tumbling()
	session.Window = 3
	return map[string]impl.Query{"the plainest": plainest(), "with Groups": grouping(), "all parts": richest(), "a Lookup": looking(), "tumbling": tumbling(), "a session": session}
}

func mustBeQuery(t *testing.T, name string, q impl.Query) {
	t.Helper()
	if !impl.QueryOk(q) {
		t.Errorf("%s: no query: %+v", name, q)
	}
	if !queryOkAsTold(q) {
		t.Errorf("%s, as told: no query: %+v", name, q)
	}
}

// sourcesFor has what the queries above name, a table where it is looked up.
func sourcesFor(q impl.Query) []impl.Source {
	list := []impl.Source{{Name: q.From, Cols: []string{"a", "b"}}}
	if q.Join != "" {
		list = append(list, impl.Source{Name: q.Join, Cols: []string{"a"}})
	}
	if q.Lookup != "" {
		list = append(list, impl.Source{Name: q.Lookup, Table: true, Cols: []string{"a"}})
	}
	return list
}

// mustBeNoQuery: nor has it a text, nor columns.
func mustBeNoQuery(t *testing.T, name string, q impl.Query) {
	t.Helper()
	if impl.QueryOk(q) {
		t.Errorf("%s: a query: %+v", name, q)
	}
	if queryOkAsTold(q) {
		t.Errorf("%s, as told: a query: %+v", name, q)
	}
	if text := impl.ShowQuery(q); text != "" {
		t.Errorf("%s: no query has a text: %q", name, text)
	}
	for _, list := range [][]impl.Source{sourcesFor(q), sourcesFor(richest()), nil} {
		if in, out := impl.Inside(q, list), impl.Outside(q, list); len(in)+len(out) > 0 {
			t.Errorf("%s: no query has columns: %v %v", name, in, out)
		}
	}
}

// mustAsk: a query as it is changed is one, or is none.
func mustAsk(t *testing.T, name string, q impl.Query, want bool, do func(q *impl.Query)) {
	t.Helper()
	q = plainQuery(q)
	do(&q)
	if want {
		mustBeQuery(t, name, q)
	} else {
		mustBeNoQuery(t, name, q)
	}
}

func TestQueryOk(t *testing.T) {
	for name, q := range someQueries() {
		mustBeQuery(t, name, q)
		in, out := impl.Inside(q, sourcesFor(q)), impl.Outside(q, sourcesFor(q))
		if len(in) != 2 || len(out) == 0 || impl.ShowQuery(q) == "" {
			t.Errorf("%s: %v %v %q", name, in, out, impl.ShowQuery(q))
		}
	}
	mustBeNoQuery(t, "the zero value", impl.Query{})
	mustAsk(t, "empty lists in place of nil", grouping(), true, func(q *impl.Query) { q.Where, q.Gets[0].Steps = []impl.Step{}, []impl.Step{} })
	mustAsk(t, "empty Groups", plainest(), true, func(q *impl.Query) { q.Groups = []string{} })
}

// mustReason: an expression is one, or is none, wherever one may stand.
func mustReason(t *testing.T, name string, steps []impl.Step, want bool) {
	t.Helper()
	if expressionOkAsTold(steps) != want {
		t.Errorf("%s, as told: not %v: %+v", name, want, steps)
	}
	mustAsk(t, name+", a value", plainest(), want, func(q *impl.Query) { q.Gets[0].Steps = steps })
	mustAsk(t, name+", a sum", grouping(), want, func(q *impl.Query) { q.Gets[1].Steps = steps })
	mustAsk(t, name+", the least", grouping(), want, func(q *impl.Query) { q.Gets[2].Steps = steps })
	mustAsk(t, name+", the most", grouping(), want, func(q *impl.Query) { q.Gets[3].Steps = steps })
	mustAsk(t, name+", a count", grouping(), len(steps) == 0, func(q *impl.Query) { q.Gets[0].Steps = steps })
	mustAsk(t, name+", where", plainest(), want || len(steps) == 0, func(q *impl.Query) { q.Where = steps })
	n, ok := impl.Reckon(steps, []string{"a", "b"}, []int{0, 0})
	if ok != want || !ok && n != 0 {
		t.Errorf("%s: it comes to %d, %v", name, n, ok)
	}
}

func TestExpressionsOfSoManySteps(t *testing.T) {
	mustReason(t, "no steps", nil, false)
	mustReason(t, "no steps", []impl.Step{}, false)
	for count := 1; count < 70; count++ {
		mustReason(t, fmt.Sprint("nots of ", count), nots(count), count <= 60)
		mustReason(t, fmt.Sprint("sums of ", count), sums(count|1), count|1 <= 60)
	}
	mustReason(t, "a sum and a not, 60", append(sums(59), stepsIn("not")...), true)
	mustReason(t, "a sum and two nots, 61", append(sums(59), stepsIn("not not")...), false)
	mustReason(t, "all numbers first, 59", stepsIn(strings.Repeat("1 ", 30)+strings.Repeat("+ ", 29)), true)
	mustReason(t, "all numbers first, 61", stepsIn(strings.Repeat("1 ", 31)+strings.Repeat("+ ", 30)), false)
	mustReason(t, "60, none is left out", stepsIn(strings.Repeat("1 ", 30)+strings.Repeat("+ ", 29)+"not"), true)
}

func TestExpressionsOfEachOp(t *testing.T) {
	for _, op := range []int{math.MinInt, -3, -2, -1, 0, 1, 2, 3, 4, 5, 6, 7, 8, 9, 10, 11, 12, 13, 14, 15, 100, math.MaxInt} {
		name, s := fmt.Sprint("Op ", op), impl.Step{Op: op}
		for ahead, count := range []string{"", "a", "a b", "a b 3"} {
			takes := 2
			if op == 12 {
				takes = 1
			}
			known := inBounds(op, 3, 12)
			mustReason(t, fmt.Sprint(name, " behind ", count), append(stepsIn(count), s), known && ahead == takes || op == 1 && ahead == 0)
		}
		mustReason(t, name+" with a Num", append(stepsIn("a b"), impl.Step{Op: op, Num: 1}), false)
		mustReason(t, name+" with a Num below 0", append(stepsIn("a b"), impl.Step{Op: op, Num: -1}), false)
		mustReason(t, name+" with a Name", append(stepsIn("a b"), impl.Step{Op: op, Name: "a"}), false)
		mustReason(t, name+" of one with a Num", append(stepsIn("a"), impl.Step{Op: op, Num: 1}), false)
		mustReason(t, name+" of one with a Name", append(stepsIn("a"), impl.Step{Op: op, Name: "a"}), false)
		mustReason(t, name+" of none with a Num", []impl.Step{{Op: op, Num: 1}}, op == 1)
		mustReason(t, name+" of none with a Name", []impl.Step{{Op: op, Name: "a"}}, op == 2)
		mustReason(t, name+" of none with both", []impl.Step{{Op: op, Num: 1, Name: "a"}}, false)
	}
}

func TestExpressionsThatTakeTooMuchOrTooLittle(t *testing.T) {
	for _, good := range []string{"a", "0", "7", "a not", "a not not", "a b +", "a b + not", "a not b not and", "a b 1 + *", "a b + 1 *", "a b + a b - /", "a 1 2 3 4 5 + - * / %"} {
		mustReason(t, good, stepsIn(good), true)
	}
	for _, bad := range []string{"not", "+", "a +", "+ a b", "a + b", "not a", "a b", "a b c", "a b not", "a b + 1", "a b + -", "a b c +", "a not +", "1 2", "1 1 + 1 1 +", "a + b c", "a b + + 1 1", "- 1 a"} {
		mustReason(t, bad, stepsIn(bad), false)
	}
}

func TestExpressionsNumbersAndNames(t *testing.T) {
	for num, want := range map[int]bool{math.MinInt: false, -1: false, 0: true, 1: true, 999999999999999: true, 1000000000000000: true, 1000000000000001: false, math.MaxInt: false} {
		mustReason(t, fmt.Sprint("Num ", num), []impl.Step{{Op: 1, Num: num}}, want)
		mustReason(t, fmt.Sprint("Num of a not ", num), []impl.Step{{Op: 1, Num: num}, {Op: 12}}, want)
		mustReason(t, fmt.Sprint("Num on the right ", num), []impl.Step{{Op: 2, Name: "a"}, {Op: 1, Num: num}, {Op: 3}}, want)
		mustReason(t, fmt.Sprint("Num of a column ", num), []impl.Step{{Op: 2, Num: num, Name: "a"}}, num == 0)
	}
	for _, name := range append(slices.Clone(noNames), "a\xff", "\xe9", "7") {
		steps := []impl.Step{{Op: 2, Name: name}}
		mustAsk(t, fmt.Sprintf("a column %q", name), plainest(), false, func(q *impl.Query) { q.Gets[0].Steps = steps })
		mustAsk(t, fmt.Sprintf("a column %q, where", name), plainest(), false, func(q *impl.Query) { q.Where = steps })
		mustAsk(t, fmt.Sprintf("a column %q, most", name), grouping(), false, func(q *impl.Query) { q.Gets[3].Steps = steps })
		if n, ok := impl.Reckon(steps, []string{name}, []int{7}); n != 0 || ok {
			t.Errorf("a column %q comes to %d, %v", name, n, ok)
		}
		if name != "" {
			mustReason(t, fmt.Sprintf("a number with the name %q", name), []impl.Step{{Op: 1, Num: 7, Name: name}}, false)
		}
	}
	long := strings.Repeat("z", 20)
	for _, name := range []string{"a", "Z", "a_", "a9", long, "from", "not", "count"} {
		mustAsk(t, "a column "+name, plainest(), true, func(q *impl.Query) { q.Gets[0].Steps = []impl.Step{{Op: 2, Name: name}} })
	}
}

func TestQueriesSources(t *testing.T) {
	long := strings.Repeat("z", 20)
	for _, name := range []string{"a", "Z", "a_", "a9", long, "from", "orders"} {
		mustAsk(t, "From "+name, plainest(), true, func(q *impl.Query) { q.From = name })
		mustAsk(t, "Join "+name, richest(), true, func(q *impl.Query) { q.Join = name })
		mustAsk(t, "Lookup "+name, looking(), true, func(q *impl.Query) { q.Lookup = name })
		mustAsk(t, "On of a Join "+name, richest(), true, func(q *impl.Query) { q.On = name })
		mustAsk(t, "On of a Lookup "+name, looking(), true, func(q *impl.Query) { q.On = name })
		mustAsk(t, "On alone "+name, plainest(), false, func(q *impl.Query) { q.On = name })
		mustAsk(t, "both, "+name, richest(), false, func(q *impl.Query) { q.Lookup = name })
		mustAsk(t, "both, "+name, looking(), false, func(q *impl.Query) { q.Join = name })
	}
	for _, name := range noNames {
		mustAsk(t, fmt.Sprintf("From %q", name), plainest(), false, func(q *impl.Query) { q.From = name })
		mustAsk(t, fmt.Sprintf("From of a Join %q", name), richest(), false, func(q *impl.Query) { q.From = name })
		mustAsk(t, fmt.Sprintf("Join %q", name), richest(), false, func(q *impl.Query) { q.Join = name })
		mustAsk(t, fmt.Sprintf("Lookup %q", name), looking(), false, func(q *impl.Query) { q.Lookup = name })
		mustAsk(t, fmt.Sprintf("On of a Join %q", name), richest(), false, func(q *impl.Query) { q.On = name })
		mustAsk(t, fmt.Sprintf("On of a Lookup %q", name), looking(), false, func(q *impl.Query) { q.On = name })
		mustAsk(t, fmt.Sprintf("On alone %q", name), plainest(), name == "", func(q *impl.Query) { q.On = name })
		mustAsk(t, fmt.Sprintf("Join without On %q", name), plainest(), name == "", func(q *impl.Query) { q.Join = name })
		mustAsk(t, fmt.Sprintf("Lookup that is none beside a Join %q", name), richest(), name == "", func(q *impl.Query) { q.Lookup = name })
		mustAsk(t, fmt.Sprintf("Join that is none beside a Lookup %q", name), looking(), name == "", func(q *impl.Query) { q.Join = name })
	}
	for _, span := range []int{math.MinInt, -1, 0, 1, 5, impl.MaxTime - 1, impl.MaxTime, impl.MaxTime + 1, math.MaxInt} {
		mustAsk(t, fmt.Sprint("Within ", span), richest(), inBounds(span, 0, 1000000000000), func(q *impl.Query) { q.Within = span })
		mustAsk(t, fmt.Sprint("Within of a Lookup ", span), looking(), span == 0, func(q *impl.Query) { q.Within = span })
		mustAsk(t, fmt.Sprint("Within alone ", span), plainest(), span == 0, func(q *impl.Query) { q.Within = span })
		mustAsk(t, fmt.Sprint("Within and On alone ", span), plainest(), false, func(q *impl.Query) { q.Within, q.On = span, "a" })
	}
}

// colNames are so many names.
func colNames(count int) []string {
	list := []string{}
	for i := range count {
		list = append(list, fmt.Sprint("c", i))
	}
	return list
}

func TestQueriesGroups(t *testing.T) {
	for count := range 15 {
		mustAsk(t, fmt.Sprint("Groups of ", count), grouping(), inBounds(count, 1, 12), func(q *impl.Query) { q.Groups = colNames(count) })
		mustAsk(t, fmt.Sprint("Groups of values ", count), plainest(), count == 0, func(q *impl.Query) { q.Groups = colNames(count) })
		for at := range count {
			mustAsk(t, fmt.Sprint("the first twice of ", count), grouping(), at == 0 && count <= 12, func(q *impl.Query) { q.Groups = colNames(count); q.Groups[at] = "c0" })
		}
	}
	for _, name := range noNames {
		mustAsk(t, fmt.Sprintf("Groups of %q", name), grouping(), false, func(q *impl.Query) { q.Groups = []string{name} })
		mustAsk(t, fmt.Sprintf("Groups, the last %q", name), grouping(), false, func(q *impl.Query) { q.Groups = []string{"a", name} })
	}
	mustAsk(t, "in any order", grouping(), true, func(q *impl.Query) { q.Groups = []string{"z", "b", "from", "a"} })
}

func TestQueriesWindows(t *testing.T) {
	sizes := []int{math.MinInt, -1, 0, 1, 2, 10, impl.MaxTime - 1, impl.MaxTime, impl.MaxTime + 1, math.MaxInt}
	for _, window := range []int{math.MinInt, -1, 0, 1, 2, 3, 4, 5, math.MaxInt} {
		for _, size := range sizes {
			for _, every := range []int{math.MinInt, -1, 0, 1, size - 1, size, size + 1, size / 20, size/20 + 1, math.MaxInt} {
				want := false
				switch window {
				case 0:
					want = size == 0 && every == 0
				case 1, 3:
					want = inBounds(size, 1, 1000000000000) && every == 0
				case 2:
					want = inBounds(size, 1, 1000000000000) && inBounds(every, 1, size) && size <= every*20
				}
				name := fmt.Sprint("Window, Size, Every ", window, " ", size, " ", every)
				set := func(q *impl.Query) { q.Window, q.Size, q.Every = window, size, every }
				mustAsk(t, name, grouping(), want, set)
				mustAsk(t, name+" without Groups", plainest(), window == 0 && want, set)
			}
		}
	}
	for _, every := range []int{1, 2, 7, 50000000000} {
		for _, more := range []int{-1, 0, 1} {
			mustAsk(t, fmt.Sprint("20 times and more, ", every, " ", more), grouping(), more < 1, func(q *impl.Query) { q.Window, q.Size, q.Every = 2, 20*every+more, every })
		}
	}
	mustAsk(t, "MaxTime is more than 20 times that", grouping(), false, func(q *impl.Query) { q.Window, q.Size, q.Every = 2, impl.MaxTime, 49999999999 })
	mustAsk(t, "no Groups, but Gets of groups", tumbling(), false, func(q *impl.Query) { q.Groups = nil })
}

func TestQueriesGets(t *testing.T) {
	for count := range 11 {
		mustAsk(t, fmt.Sprint("values of ", count), plainest(), inBounds(count, 1, 8), func(q *impl.Query) { q.Gets = slices.Repeat([]impl.Get{getting(0, "a", "x")}, count) })
		mustAsk(t, fmt.Sprint("counts of ", count), grouping(), inBounds(count, 1, 8), func(q *impl.Query) { q.Gets = slices.Repeat([]impl.Get{getting(1, "", "x")}, count) })
	}
	for _, kind := range []int{math.MinInt, -2, -1, 0, 1, 2, 3, 4, 5, 6, math.MaxInt} {
		for _, steps := range []string{"", "a", "1", "a b +"} {
			name := fmt.Sprintf("a Get of Kind %d, %q", kind, steps)
			grouped := inBounds(kind, 2, 4) && steps != "" || kind == 1 && steps == ""
			single := kind == 0 && steps != ""
			mustAsk(t, name, plainest(), single, func(q *impl.Query) { q.Gets[0] = getting(kind, steps, "x") })
			mustAsk(t, name+" behind", plainest(), single, func(q *impl.Query) { q.Gets = append(q.Gets, getting(kind, steps, "y")) })
			mustAsk(t, name+" with Groups", grouping(), grouped, func(q *impl.Query) { q.Gets[2] = getting(kind, steps, "x") })
			mustAsk(t, name+" with Groups, alone", tumbling(), grouped, func(q *impl.Query) { q.Gets = []impl.Get{getting(kind, steps, "x")} })
		}
	}
	for _, name := range noNames {
		mustAsk(t, fmt.Sprintf("As %q", name), plainest(), false, func(q *impl.Query) { q.Gets[0].As = name })
		for i := range 4 {
			mustAsk(t, fmt.Sprintf("As %q at %d", name, i), grouping(), false, func(q *impl.Query) { q.Gets[i].As = name })
		}
	}
	mustAsk(t, "As of each alike", grouping(), true, func(q *impl.Query) { q.Gets[0].As, q.Gets[1].As = "s", "s" })
	mustAsk(t, "As a column, a source, a word", grouping(), true, func(q *impl.Query) { q.Gets[0].As, q.Gets[1].As, q.Gets[2].As = "a", "orders", "from" })
}

// Names that begin as the words do, and some that are one where a query is not told.
var queryNames = []string{"a", "b", "c", "a", "b", "key", "value", "orders", "clicks", "users", "start", "end", "notes", "counter", "or_", "And", "sum1", "getAs", "x9", "zzzzzzzzzzzzzzzzzzzz"}

// randomSteps is an expression of at most so many steps.
func randomSteps(r *rand.Rand, most int) []impl.Step {
	switch roll := r.Intn(6); {
	case most < 2 || roll == 0 && most < 40:
		if r.Intn(2) == 0 {
			return []impl.Step{{Op: 1, Num: pick(r, 0, 1, 2, 7, 10, 31622777, 999999999999999, 1000000000000000, r.Intn(100), r.Intn(1000000000000000))}}
		}
		return []impl.Step{{Op: 2, Name: pick(r, queryNames...)}}
	case most < 3 || roll == 1:
		return append(randomSteps(r, most-1), impl.Step{Op: 12})
	}
	left := randomSteps(r, 1+r.Intn(most-2))
	right := randomSteps(r, most-1-len(left))
	return slices.Concat(left, right, []impl.Step{{Op: 3 + r.Intn(9)}})
}

func randomCols(r *rand.Rand, count int) []string {
	list := []string{}
	for _, at := range r.Perm(len(queryNames)) {
		if len(list) < count && !slices.Contains(list, queryNames[at]) {
			list = append(list, queryNames[at])
		}
	}
	return list
}

// randomQuery is right; some of them have no text, since that is too long.
func randomQuery(r *rand.Rand) impl.Query {
	q, size := impl.Query{From: pick(r, queryNames...)}, pick(r, 1, 3, 5, 5, 9, 20, 60)
	switch r.Intn(4) {
	case 0:
		q.Join, q.Within, q.On = pick(r, queryNames...), pick(r, 0, 1, 5, 1000, impl.MaxTime, r.Intn(100)), pick(r, queryNames...)
	case 1:
		q.Lookup, q.On = pick(r, queryNames...), pick(r, queryNames...)
	}
	if r.Intn(2) == 0 {
		q.Where = randomSteps(r, size)
	}
	if r.Intn(2) == 0 {
		q.Groups = randomCols(r, 1+r.Intn(3))
		q.Window = r.Intn(4)
	}
	if q.Window != 0 {
		q.Size = pick(r, 1, 2, 10, 100, impl.MaxTime, 1+r.Intn(1000))
	}
	if q.Window == 2 {
		q.Every = pick(r, q.Size, (q.Size+19)/20, min(q.Size, (q.Size+19)/20+1))
	}
	for range pick(r, 1, 1, 2, 3, 8) {
		g := impl.Get{As: pick(r, queryNames...)}
		if len(q.Groups) > 0 {
			g.Kind = 1 + r.Intn(4)
		}
		if g.Kind != 1 {
			g.Steps = randomSteps(r, size)
		}
		q.Gets = append(q.Gets, g)
	}
	return q
}

func spoilSteps(r *rand.Rand, steps []impl.Step) []impl.Step {
	steps = slices.Clone(steps)
	if len(steps) == 0 {
		return stepsIn(pick(r, "a", "not", "a b", "1 +"))
	}
	at := r.Intn(len(steps))
	switch r.Intn(4) {
	case 0:
		return slices.Delete(steps, at, at+1)
	case 1:
		return slices.Insert(steps, at, impl.Step{Op: r.Intn(14)})
	case 2:
		steps[at].Op = pick(r, -1, 0, 13, r.Intn(14))
	default:
		steps[at].Num, steps[at].Name = pick(r, -1, 0, 1, impl.MaxInt+1), pick(r, "", "a", "a b")
	}
	return steps
}

// spoilQuery makes a query that may be right still.
func spoilQuery(r *rand.Rand, q impl.Query) impl.Query {
	q = plainQuery(q)
	name := pick(r, "", "a", "from", "a b", "1", strings.Repeat("z", 21))
	switch r.Intn(12) {
	case 0:
		q.From = name
	case 1:
		q.Join = name
	case 2:
		q.Lookup = name
	case 3:
		q.On = name
	case 4:
		q.Within = pick(r, -1, 0, 1, impl.MaxTime+1)
	case 5:
		q.Where = spoilSteps(r, q.Where)
	case 6:
		q.Groups = append(q.Groups, pick(r, name, "a", "key"))
	case 7:
		q.Groups = nil
	case 8:
		q.Window, q.Size = pick(r, -1, 0, 1, 2, 3, 4), pick(r, q.Size, q.Size, -1, 0, 20, 21, impl.MaxTime+1)
	case 9:
		q.Every = pick(r, -1, 0, 1, q.Size, q.Size+1)
	case 10:
		q.Gets = append(q.Gets, impl.Get{Kind: r.Intn(6) - 1, Steps: stepsIn(pick(r, "", "a")), As: name})
	default:
		at := r.Intn(len(q.Gets))
		q.Gets[at].Kind, q.Gets[at].Steps = pick(r, q.Gets[at].Kind, r.Intn(6)-1), spoilSteps(r, q.Gets[at].Steps)
	}
	return q
}

func TestQueryOkIsAsTold(t *testing.T) {
	r := rand.New(rand.NewSource(170))
	right, wrong := 0, 0
	for range 20000 {
		q := randomQuery(r)
		mustBeQuery(t, "at random", q)
		q = spoilQuery(r, q)
		if queryOkAsTold(q) {
			right++
			mustBeQuery(t, "spoilt", q)
		} else {
			wrong++
			mustBeNoQuery(t, "spoilt", q)
		}
		if t.Failed() {
			return
		}
	}
	if right < 2000 || wrong < 5000 {
		t.Error("the queries are too much alike:", right, wrong)
	}
}
