package tests

import (
	"fmt"
	"math/big"
	"math/rand"
	"slices"
	"strings"
	"testing"

	"loop.example/g00035/impl"
)

// rowsIn reads rows of numbers.
func rowsIn(text string) [][]int {
	list := [][]int{}
	for _, word := range strings.Fields(text) {
		list = append(list, numbersIn(word))
	}
	return list
}

// getAsTold is what a Get comes to, of at least one row.
func getAsTold(g impl.Get, cols []string, rows []impl.Arrival) int {
	if g.Kind == 1 {
		return len(rows)
	}
	numbers, total := []int{}, new(big.Int)
	for _, a := range rows {
		n, _ := reckonAsTold(g.Steps, cols, a.Row)
		numbers = append(numbers, n)
		total.Add(total, big.NewInt(int64(n)))
	}
	slices.Sort(numbers)
	switch {
	case g.Kind == 2 && total.CmpAbs(big.NewInt(mostNumber)) > 0:
		return 0
	case g.Kind == 2:
		return int(total.Int64())
	case g.Kind == 4:
		return numbers[len(numbers)-1]
	}
	return numbers[0]
}

// toldAsTold is what comes out of some rows, behind what stands ahead.
func toldAsTold(q impl.Query, cols []string, ahead []int, rows []impl.Arrival) []int {
	out := slices.Clone(ahead)
	for _, g := range q.Gets {
		out = append(out, getAsTold(g, cols, rows))
	}
	return out
}

// keyedAsTold has the rows of each list of numbers in Groups, by its text.
func keyedAsTold(q impl.Query, cols []string, rows []impl.Arrival) map[string][]impl.Arrival {
	groups := map[string][]impl.Arrival{}
	for _, a := range rows {
		by := numbersByName(cols, a.Row)
		words := []string{}
		for _, col := range q.Groups {
			words = append(words, fmt.Sprint(by[col]))
		}
		key := strings.Join(words, ",")
		groups[key] = append(groups[key], a)
	}
	return groups
}

func windowedAsTold(q impl.Query, cols []string, key []int, rows []impl.Arrival) [][]int {
	out, times := [][]int{}, []int{}
	for _, a := range rows {
		times = append(times, a.Time)
	}
	for _, w := range windowsAsTold(q, times) {
		inside := slices.DeleteFunc(slices.Clone(rows), func(a impl.Arrival) bool { return a.Time < w[0] || a.Time >= w[1] })
		ahead := slices.Clone(key)
		if q.Window > 0 {
			ahead = append(ahead, w...)
		}
		if len(inside) > 0 {
			out = append(out, toldAsTold(q, cols, ahead, inside))
		}
	}
	return out
}

func runTableAsTold(q impl.Query, list []impl.Source, inputs [][]impl.Arrival) ([][]int, bool) {
	rows, ok := rowsAsTold(q, list, inputs)
	if !ok {
		return nil, false
	}
	cols, out := insideAsTold(q, list), [][]int{}
	if len(q.Groups) == 0 {
		for _, a := range rows {
			out = append(out, toldAsTold(q, cols, nil, []impl.Arrival{a}))
		}
	} else {
		for key, group := range keyedAsTold(q, cols, rows) {
			out = append(out, windowedAsTold(q, cols, numbersIn(key), group)...)
		}
	}
	slices.SortFunc(out, slices.Compare)
	return out, true
}

func mustComeOut(t *testing.T, name string, q impl.Query, list []impl.Source, inputs [][]impl.Arrival, want [][]int) {
	t.Helper()
	if rows, ok := impl.RunTable(q, list, inputs); !sameRows(rows, want) || !ok {
		t.Errorf("%s: %+v of %+v: %v %v, not %v", name, q, inputs, rows, ok, want)
	}
	if rows, ok := runTableAsTold(q, list, inputs); !sameRows(rows, want) || !ok {
		t.Errorf("%s, as told: %v %v, not %v", name, rows, ok, want)
	}
}

// mustRunTable reads the query, and what is to come out.
func mustRunTable(t *testing.T, text string, list []impl.Source, inputs [][]impl.Arrival, want string) {
	t.Helper()
	mustComeOut(t, text, asked(text), list, inputs, rowsIn(want))
}

func TestRunTableWithoutGroups(t *testing.T) {
	list := sourcesIn("s a b", "t a c", "u! a d")
	inputs := [][]impl.Arrival{came("3:1,10 8:2,20 12:1,30 0:-3,0"), came("5:1,7 9:2,8"), came("2:1,40 10:1,41 1:2,50 4:2,0!")}
	mustRunTable(t, "from s get a as x", list, inputs, "-3 1 1 2")
	mustRunTable(t, "from s get b as p, a as u", list, inputs, "0,-3 10,1 20,2 30,1")
	mustRunTable(t, "from s get a as u, b as p", list, inputs, "-3,0 1,10 1,30 2,20")
	mustRunTable(t, "from s get 7 as x", list, inputs, "7 7 7 7")
	mustRunTable(t, "from s get (b - (a * 20)) as x, (not a) as y, (a < b) as z", list, inputs, "-20,0,1 -10,0,1 10,0,1 60,0,1")
	mustRunTable(t, "from s where (a < 2) get b as x", list, inputs, "0 10 30")
	mustRunTable(t, "from s where 0 get b as x", list, inputs, "")
	mustRunTable(t, "from s join t within 2 on a get b as p, c as g", list, inputs, "10,7 20,8")
	mustRunTable(t, "from s join t within 7 on a where (b - 20) get (b + c) as p", list, inputs, "17 37")
	mustRunTable(t, "from s lookup u on a get d as x", list, inputs, "40 41")
	mustRunTable(t, "from s lookup u on a get (0 - d) as x, b as y", list, inputs, "-41,30 -40,10")
	mustRunTable(t, "from t get (c * 1000000000000000) as x, (c / 0) as y, a as z", list, inputs, "0,0,1 0,0,2")
	mustRunTable(t, "from s get a as x", list, make([][]impl.Arrival, 3), "")
	mustRunTable(t, "from s get 1 as c1, 2 as c2, 3 as c3, 4 as c4, 5 as c5, 6 as c6, a as c7, b as c8", list, [][]impl.Arrival{came("3:-8,9 3:-9,8"), nil, nil}, "1,2,3,4,5,6,-9,8 1,2,3,4,5,6,-8,9")
}

func TestRunTableOfRowsThatAreAlike(t *testing.T) {
	list := sourcesIn("s a b")
	inputs := [][]impl.Arrival{came("3:1,10 3:1,10 9:1,10 4:2,5 2:1,20")}
	mustRunTable(t, "from s get a as x, b as y", list, inputs, "1,10 1,10 1,10 1,20 2,5")
	mustRunTable(t, "from s get a as x", list, inputs, "1 1 1 1 2")
	mustRunTable(t, "from s get (b < 100) as x", list, inputs, "1 1 1 1 1")
	mustRunTable(t, "from s group a get count as n", list, inputs, "1,4 2,1")
	mustRunTable(t, "from s group a,b get count as n, sum b as m", list, inputs, "1,10,3,30 1,20,1,20 2,5,1,5")
	all := [][]impl.Arrival{slices.Repeat(came("3:1,10"), 300)}
	mustComeOut(t, "all alike", asked("from s get b as y"), list, all, slices.Repeat(rowsIn("10"), 300))
	mustRunTable(t, "from s group b session 1 get count as n, sum b as m, least a as l", list, all, "10,3,5,300,3000,1")
}

func TestRunTableWithGroups(t *testing.T) {
	list := sourcesIn("s a b c")
	inputs := [][]impl.Arrival{came("3:1,10,-5 8:2,20,-6 12:1,30,-7 2:2,20,8 40:1,10,-9")}
	mustRunTable(t, "from s group a get count as n", list, inputs, "1,3 2,2")
	mustRunTable(t, "from s group a get count as n, count as m", list, inputs, "1,3,3 2,2,2")
	mustRunTable(t, "from s group a get sum b as n", list, inputs, "1,50 2,40")
	mustRunTable(t, "from s group a get sum c as n", list, inputs, "1,-21 2,2")
	mustRunTable(t, "from s group a get least c as n, most c as m", list, inputs, "1,-9,-5 2,-6,8")
	mustRunTable(t, "from s group b get least c as n, most (0 - c) as m, sum (c * c) as o", list, inputs, "10,-9,9,106 20,-6,6,100 30,-7,7,49")
	mustRunTable(t, "from s group b,a get count as n", list, inputs, "10,1,2 20,2,2 30,1,1")
	mustRunTable(t, "from s group a,b get count as n", list, inputs, "1,10,2 1,30,1 2,20,2")
	mustRunTable(t, "from s group c get sum a as n", list, inputs, "-9,1 -7,1 -6,2 -5,1 8,2")
	mustRunTable(t, "from s where (c < 0) group a get count as n, most c as m", list, inputs, "1,3,-5 2,1,-6")
	mustRunTable(t, "from s where (b = 30) group a get count as n", list, inputs, "1,1")
	mustRunTable(t, "from s where 0 group a get count as n", list, inputs, "")
	mustRunTable(t, "from s group a get count as n", list, [][]impl.Arrival{nil}, "")
	mustRunTable(t, "from s group a get least 7 as n, most 7 as m, sum 7 as o", list, inputs, "1,7,7,21 2,7,7,14")
	mustRunTable(t, "from s group a get least (b < 15) as n, most (b < 15) as m, sum (b < 15) as o", list, inputs, "1,0,1,2 2,0,0,0")
}

func TestRunTableOfWindows(t *testing.T) {
	list := sourcesIn("s a b")
	inputs := [][]impl.Arrival{came("12:1,30 3:1,10 8:2,20 9:1,-5 30:2,7")}
	mustRunTable(t, "from s group a tumble 10 get sum b as n", list, inputs, "1,0,10,5 1,10,20,30 2,0,10,20 2,30,40,7")
	mustRunTable(t, "from s group a tumble 1000000000000 get count as n, sum b as m", list, inputs, "1,0,1000000000000,3,35 2,0,1000000000000,2,27")
	mustRunTable(t, "from s group a hop 10 5 get count as n, least b as m", list, inputs, "1,0,10,2,-5 1,5,15,2,-5 1,10,20,1,30 2,0,10,1,20 2,5,15,1,20 2,25,35,1,7 2,30,40,1,7")
	mustRunTable(t, "from s group a session 3 get count as n, most b as m", list, inputs, "1,3,7,1,10 1,9,16,2,30 2,8,12,1,20 2,30,34,1,7")
	mustRunTable(t, "from s group a session 6 get count as n, most b as m", list, inputs, "1,3,19,3,30 2,8,15,1,20 2,30,37,1,7")
	mustRunTable(t, "from s group a session 5 get count as n", list, inputs, "1,3,9,1 1,9,18,2 2,8,14,1 2,30,36,1")
	mustRunTable(t, "from s where (0 < b) group a session 6 get count as n", list, inputs, "1,3,10,1 1,12,19,1 2,8,15,1 2,30,37,1")
	mustRunTable(t, "from s group b,a tumble 10 get count as n", list, inputs, "-5,1,0,10,1 7,2,30,40,1 10,1,0,10,1 20,2,0,10,1 30,1,10,20,1")
	// No window is told in which none lies; a group has the windows of its own times alone.
	mustRunTable(t, "from s group a tumble 5 get count as n", list, inputs, "1,0,5,1 1,5,10,1 1,10,15,1 2,5,10,1 2,30,35,1")
	mustRunTable(t, "from s group a hop 4 2 get count as n", list, [][]impl.Arrival{came("0:1,1 100:1,1 50:2,2")}, "1,0,4,1 1,98,102,1 1,100,104,1 2,48,52,1 2,50,54,1")
	mustRunTable(t, "from s group a hop 5 5 get count as n", list, [][]impl.Arrival{came("4:1,1 5:1,1 9:1,1 10:1,1")}, "1,0,5,1 1,5,10,2 1,10,15,1")
	mustRunTable(t, "from s group a tumble 10 get most b as n, least b as m", list, [][]impl.Arrival{came("9:1,-9 0:1,-1 10:1,-7 19:1,-8")}, "1,0,10,-1,-9 1,10,20,-7,-8")
}

func TestRunTableOfARowInManyHops(t *testing.T) {
	want := [][]int{}
	for start := 81; start <= 100; start++ {
		want = append(want, []int{5, start, start + 20, 1, 7})
	}
	list := sourcesIn("s a b")
	mustComeOut(t, "20 hops", asked("from s group a hop 20 1 get count as n, sum b as m"), list, [][]impl.Arrival{came("100:5,7")}, want)
	inputs := [][]impl.Arrival{came("100:5,7 101:5,8")}
	want = [][]int{{5, 81, 101, 1, 7}}
	for start := 82; start <= 100; start++ {
		want = append(want, []int{5, start, start + 20, 2, 15})
	}
	mustComeOut(t, "two rows", asked("from s group a hop 20 1 get count as n, sum b as m"), list, inputs, append(want, []int{5, 101, 121, 1, 8}))
	mustRunTable(t, "from s group a hop 20 1 get most b as m", list, [][]impl.Arrival{came("1:5,7")}, "5,0,20,7 5,1,21,7")
}

// A Join's rows lie where the greater Time does, a Lookup's where From's does.
func TestRunTableOfJoinsInWindows(t *testing.T) {
	list := sourcesIn("s a b", "t a c", "u! a d")
	inputs := [][]impl.Arrival{came("3:1,10 8:1,20 12:2,30"), came("11:1,7 1:1,8 20:2,9"), came("2:1,5 10:2,6 15:1,7")}
	mustRunTable(t, "from s join t within 8 on a group a tumble 10 get count as n, sum (b * c) as m", list, inputs, "1,0,10,2,240 1,10,20,2,210 2,20,30,1,270")
	mustRunTable(t, "from s join t within 8 on a group c get count as n, sum b as m", list, inputs, "7,2,30 8,2,30 9,1,30")
	mustRunTable(t, "from s lookup u on a group d,a tumble 10 get count as n, sum b as m", list, inputs, "5,1,0,10,2,30 6,2,10,20,1,30")
	mustRunTable(t, "from s lookup u on a group d session 4 get count as n", list, inputs, "5,3,8,1 5,8,13,1 6,12,17,1")
}

func TestRunTableUpToMaxColsGroups(t *testing.T) {
	for count := 1; count <= 12; count++ {
		list := []impl.Source{{Name: "s", Cols: colNames(12)}}
		q := impl.Query{From: "s", Groups: colNames(count), Gets: []impl.Get{getting(1, "", "n"), getting(2, "c11", "m")}}
		arrivals, want := []impl.Arrival{}, [][]int{}
		for at := range 12 {
			row := make([]int, 12)
			row[at] = 1
			arrivals = append(arrivals, impl.Arrival{Time: at, Row: row}, impl.Arrival{Time: 50, Row: slices.Clone(row)})
		}
		// Groups that are alike are those that differ behind the Groups alone.
		rest := 12 - count
		if rest > 0 {
			want = append(want, append(make([]int, count), 2*rest, 2))
		}
		for at := count - 1; at >= 0; at-- {
			row := make([]int, count)
			row[at] = 1
			want = append(want, append(row, 2, map[bool]int{true: 2}[at == 11]))
		}
		mustComeOut(t, fmt.Sprint("Groups ", count), q, list, [][]impl.Arrival{arrivals}, want)
	}
}

func TestRunTableSums(t *testing.T) {
	list := sourcesIn("s a b")
	for _, x := range []struct {
		numbers []int
		want    int
	}{
		{[]int{mostNumber}, mostNumber}, {[]int{mostNumber - 1, 1}, mostNumber}, {[]int{mostNumber, 1}, 0}, {[]int{mostNumber, 1, -1}, mostNumber}, {[]int{mostNumber, mostNumber, -mostNumber}, mostNumber},
		{[]int{mostNumber, mostNumber, -mostNumber, 1}, 0}, {[]int{mostNumber, mostNumber, -mostNumber, -mostNumber, 7}, 7}, {[]int{mostNumber, mostNumber, mostNumber, -5}, 0}, {[]int{500000000000000, 500000000000000}, mostNumber}, {[]int{500000000000000, 500000000000001}, 0},
		{slices.Repeat([]int{mostNumber}, 300), 0}, {slices.Repeat([]int{mostNumber, -mostNumber}, 150), 0}, {append(slices.Repeat([]int{mostNumber, -mostNumber}, 149), 3, 4), 7}, {slices.Repeat([]int{mostNumber / 250}, 250), mostNumber}, {append(slices.Repeat([]int{mostNumber / 250}, 250), 1), 0},
	} {
		for _, sign := range []int{1, -1} {
			arrivals := []impl.Arrival{}
			for i, n := range x.numbers {
				arrivals = append(arrivals, impl.Arrival{Time: i, Row: []int{1, sign * n}})
			}
			want := [][]int{{1, sign * x.want, len(x.numbers)}}
			mustComeOut(t, "a sum", asked("from s group a get sum b as n, count as m"), list, [][]impl.Arrival{arrivals}, want)
			slices.Reverse(arrivals)
			mustComeOut(t, "the other way round", asked("from s group a get sum b as n, count as m"), list, [][]impl.Arrival{arrivals}, want)
			mustComeOut(t, "in a window", asked("from s group a tumble 1000 get sum b as n, count as m"), list, [][]impl.Arrival{arrivals}, [][]int{{1, 0, 1000, sign * x.want, len(x.numbers)}})
		}
	}
	// A number that leaves on the way to a row is 0 there; the others are added still.
	mustRunTable(t, "from s group a get sum (b * 2) as n", list, [][]impl.Arrival{came("1:1,1000000000000000 2:1,4 3:1,-7")}, "1,-6")
	// As many rows as there may be, each as great as it may be: more than 64 bits hold is not reached.
	pairs := sourcesIn("s a b", "t a c")
	for number, want := range map[int]int{mostNumber: 0, -mostNumber: 0, 333333333333: 999999999999000, -333333333333: -999999999999000, 333333333334: 0} {
		inputs := crossing([2]int{50, 60})
		for i := range inputs[0] {
			inputs[0][i].Row[1] = number
		}
		mustComeOut(t, "of 3000 rows", asked("from s join t within 1 on a group a get sum b as n"), pairs, inputs, [][]int{{0, want}})
	}
}

func TestRunTableLeastAndMost(t *testing.T) {
	list := sourcesIn("s a b")
	for _, numbers := range [][]int{{0}, {-5}, {5}, {-5, -7, -6}, {5, 7, 6}, {-1, 0, 1}, {mostNumber, -mostNumber, 0}, {-mostNumber}, {mostNumber}, {3, 3, 3}, {-3, 5, -3, 5}} {
		for at := range numbers {
			turned := slices.Concat(numbers[at:], numbers[:at])
			arrivals := []impl.Arrival{}
			for i, n := range turned {
				arrivals = append(arrivals, impl.Arrival{Time: i, Row: []int{1, n}})
			}
			mustComeOut(t, "least and most", asked("from s group a session 5 get least b as l, most b as m"), list, [][]impl.Arrival{arrivals}, [][]int{{1, 0, len(numbers) + 5, slices.Min(numbers), slices.Max(numbers)}})
		}
	}
}

// The order is by each column, and not by the texts of the numbers.
func TestRunTableStandsInOrder(t *testing.T) {
	list := sourcesIn("s a b c")
	r := rand.New(rand.NewSource(184))
	sorted := rowsIn("-1000000000000000,0,0 -10,5,5 -9,5,5 -1,-1,-1 -1,-1,0 -1,0,-5 0,0,0 0,0,9 0,0,10 0,2,0 0,10,0 2,-3,1 2,-3,1 9,0,0 10,0,0 100,-1,0 1000000000000000,0,0")
	for range 300 {
		arrivals := []impl.Arrival{}
		for _, at := range r.Perm(len(sorted)) {
			arrivals = append(arrivals, impl.Arrival{Time: r.Intn(100), Row: slices.Clone(sorted[at])})
		}
		inputs := [][]impl.Arrival{arrivals}
		mustComeOut(t, "without Groups", asked("from s get a as x, b as y, c as z"), list, inputs, sorted)
		groups := [][]int{}
		for _, row := range slices.CompactFunc(slices.Clone(sorted), slices.Equal) {
			groups = append(groups, append(slices.Clone(row), 1+map[bool]int{true: 1}[row[0] == 2]))
		}
		mustComeOut(t, "with Groups", asked("from s group a,b,c get count as n"), list, inputs, groups)
	}
	mustRunTable(t, "from s group a tumble 5 get count as n", list, [][]impl.Arrival{came("100:-1,0,0 20:-1,0,0 5:-1,0,0 7:10,0,0 5:9,0,0")}, "-1,5,10,1 -1,20,25,1 -1,100,105,1 9,5,10,1 10,5,10,1")
}

func TestRunTableOfWhatIsNotRight(t *testing.T) {
	list := sourcesIn("s a b", "t a c")
	inputs := crossing([2]int{50, 60})
	mustRunTable(t, "from s join t within 1 on a group a get count as n", list, inputs, "0,3000")
	mustRunTable(t, "from s join t within 1 on a where 0 group a get count as n", list, inputs, "")
	mustSeeNoRows(t, "too many rows", asked("from s join t within 1 on a group a get count as n"), list, crossing([2]int{50, 60}, [2]int{1, 1}))
	mustSeeNoRows(t, "too many rows, but none is wanted", asked("from s join t within 1 on a where 0 group a get count as n"), list, crossing([2]int{50, 60}, [2]int{1, 1}))
	for _, text := range []string{"from s group a get count as n", "from s group a tumble 5 get count as n", "from s group a hop 4 2 get sum b as n", "from s group a session 5 get most b as n", "from s get a as n"} {
		if _, ok := impl.RunTable(asked(text), list, inputs); !ok {
			t.Error("nothing comes out:", text)
		}
		mustSeeNoRows(t, "a missing source", asked(text), list[1:], inputs[1:])
		mustSeeNoRows(t, "fewer inputs", asked(text), list, inputs[1:])
		mustSeeNoRows(t, "other inputs", asked(text), list, [][]impl.Arrival{came("3:1,2,3"), nil})
		mustSeeNoRows(t, "a table", asked(text), sourcesIn("s! a b", "t a c"), inputs)
		q := asked(text)
		q.Gets[0].As = "a b"
		mustSeeNoRows(t, "no name", q, list, inputs)
		q = asked(text)
		q.Gets = append(q.Gets, q.Gets[0])
		mustSeeNoRows(t, "one stands twice", q, list, inputs)
		q = asked(text)
		q.Where = stepsIn("c")
		mustSeeNoRows(t, "a column that is none", q, list, inputs)
	}
}

func TestRunTableIsAsTold(t *testing.T) {
	r := rand.New(rand.NewSource(185))
	seen := map[string]int{}
	for range 20000 {
		q, list, inputs := tableToTry(r)
		want, ok := runTableAsTold(q, list, inputs)
		if !ok {
			mustSeeNoRows(t, "at random", q, list, inputs)
			seen["nothing"]++
			continue
		}
		mustComeOut(t, "at random", q, list, inputs, want)
		if len(want) > 3 {
			seen[fmt.Sprint("grouped ", len(q.Groups) > 0, ", window ", q.Window)]++
		}
		if out := impl.Outside(q, list); len(want) > 0 && len(want[0]) != len(out) {
			t.Errorf("%v, but %v", want[0], out)
		}
		if t.Failed() {
			t.Fatalf("%+v %+v %+v", q, list, inputs)
		}
	}
	for _, kind := range []string{"nothing", "grouped false, window 0", "grouped true, window 0", "grouped true, window 1", "grouped true, window 2", "grouped true, window 3"} {
		if seen[kind] < 100 {
			t.Error("the queries are too much alike:", seen)
		}
	}
}

// twoParts deals the arrivals of inputs, so that together both have all.
func twoParts(r *rand.Rand, inputs [][]impl.Arrival) [2][][]impl.Arrival {
	parts := [2][][]impl.Arrival{make([][]impl.Arrival, len(inputs)), make([][]impl.Arrival, len(inputs))}
	share := pick(r, 1, 2, 2, 5)
	for i, arrivals := range inputs {
		for _, a := range arrivals {
			to := parts[min(r.Intn(share), 1)]
			to[i] = append(to[i], a)
		}
	}
	return parts
}

// P26: without groups and joins a query over two parts tells together what it tells of all.
func TestAQueryOverTwoParts(t *testing.T) {
	r := rand.New(rand.NewSource(186))
	told, bare := 0, 0
	for range 20000 {
		q := randomQuery(r)
		q.Join, q.Lookup, q.Within, q.On = "", "", 0, ""
		q.Groups, q.Window, q.Size, q.Every = nil, 0, 0, 0
		for i := range q.Gets {
			if q.Gets[i].Kind != 0 {
				q.Gets[i].Kind, q.Gets[i].Steps = 0, randomSteps(r, pick(r, 1, 3, 9))
			}
		}
		list := randomSources(r, q)
		q = fewCols(r, q, list)
		inputs := randomInputs(r, list)
		parts := twoParts(r, inputs)
		all, ok := impl.RunTable(q, list, inputs)
		one, okOne := impl.RunTable(q, list, parts[0])
		other, okOther := impl.RunTable(q, list, parts[1])
		if ok != (len(outsideAsTold(q, list)) > 0) || ok != okOne || ok != okOther {
			t.Fatalf("%+v %+v: %v, but its parts %v %v", q, list, ok, okOne, okOther)
		}
		together := slices.Concat(one, other)
		slices.SortFunc(together, slices.Compare)
		if !sameRows(all, together) {
			t.Fatalf("%+v of %+v: %v, but of parts %v and %v", q, inputs, all, one, other)
		}
		if ok && len(one) > 0 && len(other) > 0 {
			told++
		}
		if ok && len(q.Where) == 0 && len(all) == len(inputs[slices.IndexFunc(list, func(s impl.Source) bool { return s.Name == q.From })]) {
			bare++
		}
	}
	if told < 3000 || bare < 3000 {
		t.Error("the queries are too much alike:", told, bare)
	}
}
