package tests

import (
	"fmt"
	"math"
	"slices"
	"strings"
	"testing"

	"loop.example/g00035/impl"
)

// mustStreamNothing: no list, no count, and false.
func mustStreamNothing(t *testing.T, name string, q impl.Query, list []impl.Source, coming []impl.Coming) {
	t.Helper()
	if outs, late, ok := impl.RunStream(q, list, coming); len(outs) > 0 || late != 0 || ok {
		t.Errorf("%s: %+v tells %v %d %v", name, q, outs, late, ok)
	}
	if outs, late, ok := streamAsTold(q, list, coming); len(outs) > 0 || late != 0 || ok {
		t.Errorf("%s, as told: %v %d %v", name, outs, late, ok)
	}
}

// mustTakeComing: one coming is right or not, alone, and first, last and in the midst of others.
func mustTakeComing(t *testing.T, name string, list []impl.Source, c impl.Coming, want bool) {
	t.Helper()
	others := comes("0@7:1,1 0>1 0@8:2,2")
	for _, text := range []string{"from s get b as x", "from s group a tumble 5 get count as n"} {
		if outs, _, ok := impl.RunStream(asked(text), list, []impl.Coming{c}); ok != want || !want && len(outs) > 0 {
			t.Errorf("%s: %+v alone: %v %v", name, c, outs, ok)
		}
		for at := range len(others) + 1 {
			coming := slices.Insert(slices.Clone(others), at, c)
			if !want {
				mustStreamNothing(t, name, asked(text), list, coming)
				continue
			}
			outs, late, _ := streamAsTold(asked(text), list, coming)
			mustStreamAll(t, name, asked(text), list, coming, outs, late)
		}
	}
}

func manyMarks(count int) []impl.Coming {
	return slices.Repeat(comes("0>5"), count)
}

func manyComings(count int, coming string) []impl.Coming {
	list := []impl.Coming{}
	for range count {
		list = append(list, comes(coming)...)
	}
	return list
}

func TestStreamsUpToMaxComing(t *testing.T) {
	list, q := sourcesIn("s a b", "t a b"), asked("from s get b as x")
	mustStreamAll(t, "just as many marks", q, list, manyMarks(400), nil, 0)
	mustStreamNothing(t, "one mark more", q, list, manyMarks(401))
	mustStreamNothing(t, "many more marks", q, list, manyMarks(4000))
	mixed := append(manyMarks(398), comes("0@5:1,7 0@4:1,8")...)
	mustStreamAll(t, "just as many of both", q, list, mixed, outsIn("398:7"), 1)
	mustStreamNothing(t, "one more of both", q, list, append(manyMarks(1), mixed...))
	mustStreamNothing(t, "one more that is late", q, list, append(mixed, comes("0@4:1,7")...))
	mustStreamNothing(t, "one more that is not named", q, list, append(mixed, comes("1>0")...))
	whole := append(manyComings(300, "0@5:1,7"), manyMarks(100)...)
	outs := []impl.Out{}
	for at := range 300 {
		outs = append(outs, impl.Out{At: at, Row: []int{7}})
	}
	mustStreamAll(t, "as many arrivals as can be, and marks", q, list, whole, outs, 0)
	mustStreamNothing(t, "and one mark more", q, list, append(whole, comes("1>5")...))
}

func TestStreamsUpToMaxArrivals(t *testing.T) {
	list := sourcesIn("s a b", "t a c", "u! a d")
	for _, text := range []string{"from s get b as x", "from s join t within 0 on a get b as x", "from s lookup u on a get b as x", "from s group a get count as n"} {
		for name, coming := range map[string][]impl.Coming{
			"of From": append(manyComings(290, "2@3:1,1"), manyComings(10, "0@5:1,7")...), "not named": manyComings(300, "1@3:7,1"), "some late": append(manyComings(150, "0@5:9,7"), slices.Concat(comes("0>6"), manyComings(150, "0@5:9,7"))...),
			"all late": append(comes("0>6 1>6 2>6"), manyComings(100, "0@5:1,7 1@5:2,7 2@5:1,7!")...), "of each": manyComings(100, "0@5:1,7 1@5:2,7 2@5:1,7"),
		} {
			outs, late, ok := streamAsTold(asked(text), list, coming)
			if !ok {
				t.Error("not right as told:", name, text)
			}
			mustStreamAll(t, name, asked(text), list, coming, outs, late)
			for _, more := range []string{"0@5:1,7", "0@7:8,7", "1@5:1,7", "1@0:2,7", "2@9:1,7", "2@5:1,7!"} {
				mustStreamNothing(t, name+", and one more", asked(text), list, append(slices.Clone(coming), comes(more)...))
				mustStreamNothing(t, name+", and one more at first", asked(text), list, append(comes(more), coming...))
			}
		}
	}
}

// crossed are comings of s and t that a Join on a puts together to so many rows, taken in turns from both.
func crossed(products ...[2]int) []impl.Coming {
	coming, left := []impl.Coming{}, crossing(products...)
	for len(left[0])+len(left[1]) > 0 {
		for place := range left {
			if len(left[place]) > 0 {
				coming = append(coming, impl.Coming{Source: place, Arrival: left[place][0], Mark: -1})
				left[place] = left[place][1:]
			}
		}
	}
	return coming
}

func TestStreamsUpToMaxJoined(t *testing.T) {
	list := sourcesIn("s a b", "t a c")
	one := [2]int{1, 1}
	for _, text := range []string{"from s join t within 1 on a get b as x", "from t join s within 1 on a where 0 get b as x", "from s join t within 1 on a group a get count as n", "from s join t within 1 on a group a,b tumble 3 get sum c as n"} {
		for name, coming := range map[string][]impl.Coming{"50 and 60": crossed([2]int{50, 60}), "20 and 150": crossed([2]int{20, 150}), "in parts": crossed(one, [2]int{1, 99}, [2]int{29, 100}), "the others first": crossed([2]int{0, 5}, [2]int{5, 0}, [2]int{50, 60})} {
			coming = append(coming, comes("0>5 1>6 0>end 1>end")...)
			outs, late, ok := impl.RunStream(asked(text), list, coming)
			table, _ := runTableAsTold(asked(text), list, standingAsTold(list, coming).arrivals)
			if told := rowsOf(outs); !ok || late != 0 || !sameRows(told, table) {
				t.Errorf("%s, %s: %v %v %v, not %v", name, text, len(told), late, ok, len(table))
			}
		}
		for name, coming := range map[string][]impl.Coming{"one more at the end": crossed([2]int{50, 60}, one), "one more at the beginning": crossed(one, [2]int{50, 60}), "some more": crossed([2]int{50, 61}), "many more": crossed([2]int{150, 150})} {
			mustStreamNothing(t, name, asked(text), list, coming)
			mustStreamNothing(t, name+", then the end", asked(text), list, append(coming, comes("0>end 1>end")...))
			// The rows of what is late are counted too.
			mustStreamNothing(t, name+", all late", asked(text), list, append(comes("0>9 1>9"), coming...))
			last := len(coming) - 1
			mustStreamNothing(t, name+", the last one late", asked(text), list, slices.Insert(slices.Clone(coming), last, impl.Coming{Source: coming[last].Source, Mark: 9}))
		}
		late := append(comes("0>9 1>9"), crossed([2]int{50, 60})...)
		mustStreamAll(t, "all late", asked(text), list, late, nil, 110)
	}
}

// rowsOf are the rows that were told, in order.
func rowsOf(outs []impl.Out) [][]int {
	rows := [][]int{}
	for _, out := range outs {
		rows = append(rows, out.Row)
	}
	slices.SortFunc(rows, slices.Compare)
	return rows
}

func TestComingsSources(t *testing.T) {
	for sources := 1; sources <= 10; sources++ {
		list := []impl.Source{{Name: "s", Cols: []string{"a", "b"}}}
		for i := 1; i < sources; i++ {
			list = append(list, impl.Source{Name: fmt.Sprint("t", i), Cols: []string{"a", "b"}})
		}
		for _, place := range []int{math.MinInt, -2, -1, 0, 1, sources - 1, sources, sources + 1, 10, 11, math.MaxInt} {
			name := fmt.Sprint("sources, a place: ", sources, " ", place)
			mustTakeComing(t, name+", an arrival", list, impl.Coming{Source: place, Arrival: came("5:1,7")[0], Mark: -1}, inBounds(place, 0, sources-1))
			for _, mark := range []int{0, 5, impl.MaxTime + 1} {
				mustTakeComing(t, name+", a mark", list, impl.Coming{Source: place, Mark: mark}, inBounds(place, 0, sources-1))
			}
		}
	}
}

func TestComingsMarks(t *testing.T) {
	list := sourcesIn("s a b", "t a c", "u! a d")
	for place := range list {
		for _, mark := range []int{math.MinInt, -1000, -3, -2, -1, 0, 1, 5, impl.MaxTime - 1, impl.MaxTime, impl.MaxTime + 1, impl.MaxTime + 2, math.MaxInt} {
			name, right := fmt.Sprint("a mark ", mark, " of ", place), inBounds(mark, 0, 1000000000001)
			mustTakeComing(t, name, list, impl.Coming{Source: place, Mark: mark}, right)
			mustTakeComing(t, name+", a Row without numbers", list, impl.Coming{Source: place, Mark: mark, Arrival: impl.Arrival{Row: []int{}}}, right)
			for what, a := range map[string]impl.Arrival{"an arrival": {Time: 5, Row: []int{1, 2}}, "one at 0": {Row: []int{1, 2}}, "its Time": {Time: 1}, "a Time that is none": {Time: -1}, "its Row": {Row: []int{0}}, "its Gone": {Gone: true}, "all of it": {Time: 5, Row: []int{1, 2}, Gone: true}} {
				arrives := mark == -1 && len(a.Row) == 2 && (!a.Gone || place == 2)
				mustTakeComing(t, name+" with "+what, list, impl.Coming{Source: place, Mark: mark, Arrival: a}, arrives)
			}
		}
	}
}

func TestComingsArrivals(t *testing.T) {
	list := sourcesIn("s a b", "t a c d", "u! a d")
	for place, s := range list {
		take := func(name string, a impl.Arrival, want bool) {
			t.Helper()
			mustTakeComing(t, fmt.Sprint(name, " of ", s.Name), list, impl.Coming{Source: place, Arrival: a, Mark: -1}, want)
			a.Gone = true
			mustTakeComing(t, fmt.Sprint(name, " of ", s.Name, ", Gone"), list, impl.Coming{Source: place, Arrival: a, Mark: -1}, want && s.Table)
		}
		row := make([]int, len(s.Cols))
		for _, time := range []int{math.MinInt, -2, -1, 0, 1, 5, impl.MaxTime - 1, impl.MaxTime, impl.MaxTime + 1, impl.MaxTime + 2, math.MaxInt} {
			take(fmt.Sprint("a Time ", time), impl.Arrival{Time: time, Row: row}, inBounds(time, 0, 1000000000000))
		}
		for length := range 14 {
			take(fmt.Sprint("numbers ", length), impl.Arrival{Time: 5, Row: make([]int, length)}, length == len(s.Cols))
		}
		take("no Row", impl.Arrival{Time: 5}, false)
		take("the zero value", impl.Arrival{}, false)
		for _, n := range []int{math.MinInt, -mostNumber - 1, -mostNumber, -1, 0, mostNumber, mostNumber + 1, math.MaxInt} {
			for at := range s.Cols {
				a := impl.Arrival{Time: 5, Row: slices.Clone(row)}
				a.Row[at] = n
				take(fmt.Sprint("a number ", n, " at ", at), a, inBounds(n, -mostNumber, mostNumber))
			}
		}
	}
}

// Also what is late must be right.
func TestComingsThatAreLateAndNotRight(t *testing.T) {
	list, q := sourcesIn("s a b", "t a c"), asked("from s get b as x")
	mustStream(t, "from s get b as x", list, "0>9 0@8:1,7 1>end 1@9:1,2", "", 2)
	for _, late := range []string{"0@8:1", "0@8:1,7!", "0@-1:1,7", "0@8:1,1000000000000001", "1@8:1,7,3", "1@8:1,7!", "1@-5:1,7", "0@8:"} {
		mustStreamNothing(t, late, q, list, comes("0>9 1>end "+late))
	}
}

func TestStreamsOfWhatIsNotRight(t *testing.T) {
	list := sourcesIn("s a b", "t a c", "u! a d")
	coming := comes("0@3:1,10 1@4:1,20 2@2:1,30 0>5 1>5 2>5 0>end 1>end 2>end")
	good := asked("from s join t within 5 on a get b as x")
	mustStreamAll(t, "as it is", good, list, coming, outsIn("1:10"), 0)
	for _, do := range []func(q *impl.Query){
		func(q *impl.Query) { q.Within = -1 }, func(q *impl.Query) { q.Gets[0].Steps = nil }, func(q *impl.Query) { q.Where = stepsIn("a a") }, func(q *impl.Query) { q.Window, q.Size = 1, 5 },
		func(q *impl.Query) { q.Where = stepsIn("d") }, func(q *impl.Query) { q.Gets = nil }, func(q *impl.Query) { q.Gets[0].As = "a b" }, func(q *impl.Query) { *q = impl.Query{} },
	} {
		q := plainQuery(good)
		do(&q)
		mustStreamNothing(t, "another query", q, list, coming)
		mustStreamNothing(t, "another query, and none comes", q, list, nil)
	}
	for _, text := range strings.Split("from v get 1 as x|from s join v within 5 on a get b as x|from s lookup v on a get b as x|from u get a as x|from s join u within 5 on a get b as x|from s lookup t on a get b as x|"+
		"from s join t within 5 on b get b as x|from s join s within 5 on a get b as x|from s lookup u on b get b as x|from s get c as x|from s where c get a as x|from s group c get count as n|"+
		"from s get a as x, b as x|from s group a get count as a|from s group a tumble 5 get count as start", "|") {
		mustStreamNothing(t, text, asked(text), list, coming)
		mustStreamNothing(t, text+", and none comes", asked(text), list, nil)
	}
	mustStreamNothing(t, "no sources", good, nil, nil)
	mustStreamNothing(t, "no sources, but comings", good, nil, coming)
	mustStreamNothing(t, "a source twice", good, append(slices.Clone(list), list[0]), coming)
	mustStreamNothing(t, "a source is missing", good, list[:1], comes("0@3:1,10"))
	wide := make([]impl.Source, 1000)
	mustStreamNothing(t, "too many sources", good, wide, comes("0>5 999>5"))
	mustStreamNothing(t, "too many sources", asked("from s get a as x"), append(sourcesIn("s a"), manySources(10)...), nil)
}
