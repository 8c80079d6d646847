package tests

import (
	"fmt"
	"math/rand"
	"slices"
	"strings"
	"testing"

	"loop.example/g00035/impl"
)

// numbersByName has the numbers of a row by their columns.
func numbersByName(cols []string, row []int) map[string]int {
	out := map[string]int{}
	for i, col := range cols {
		out[col] = row[i]
	}
	return out
}

// arrivalsAsTold are those of the source of that name, and its columns.
func arrivalsAsTold(list []impl.Source, inputs [][]impl.Arrival, name string) ([]impl.Arrival, []string) {
	for i, s := range list {
		if s.Name == name {
			return inputs[i], s.Cols
		}
	}
	return nil, nil
}

// A rowAsTold is a row whose numbers stand by their columns still.
type rowAsTold struct {
	time    int
	numbers []map[string]int
}

// joinedAsTold are all rows ahead of Where.
func joinedAsTold(q impl.Query, list []impl.Source, inputs [][]impl.Arrival) []rowAsTold {
	rows := []rowAsTold{}
	arrivals, cols := arrivalsAsTold(list, inputs, q.From)
	other, otherCols := arrivalsAsTold(list, inputs, q.Join+q.Lookup)
	for _, a := range arrivals {
		own := numbersByName(cols, a.Row)
		if q.Join+q.Lookup == "" {
			rows = append(rows, rowAsTold{a.Time, []map[string]int{own}})
		}
		if found, ok := latestAsTold(other, own[q.On], a.Time); q.Lookup != "" && ok {
			rows = append(rows, rowAsTold{a.Time, []map[string]int{own, numbersByName(otherCols, found)}})
		}
		for _, b := range other {
			its := numbersByName(otherCols, b.Row)
			if q.Join != "" && own[q.On] == its[q.On] && max(a.Time-b.Time, b.Time-a.Time) <= q.Within {
				rows = append(rows, rowAsTold{max(a.Time, b.Time), []map[string]int{own, its}})
			}
		}
	}
	return rows
}

func rowsAsTold(q impl.Query, list []impl.Source, inputs [][]impl.Arrival) ([]impl.Arrival, bool) {
	cols, out := insideAsTold(q, list), []impl.Arrival{}
	if outsideAsTold(q, list) == nil || !inputsOkAsTold(list, inputs) {
		return nil, false
	}
	all := joinedAsTold(q, list, inputs)
	for _, x := range all {
		row := []int{}
		for _, col := range cols {
			at := slices.IndexFunc(x.numbers, func(part map[string]int) bool { _, ok := part[col]; return ok })
			row = append(row, x.numbers[at][col])
		}
		if n, ok := reckonAsTold(q.Where, cols, row); len(q.Where) == 0 || ok && n != 0 {
			out = append(out, impl.Arrival{Time: x.time, Row: row})
		}
	}
	if len(all) > 3000 {
		return nil, false
	}
	return out, true
}

func mustSeeAll(t *testing.T, name string, q impl.Query, list []impl.Source, inputs [][]impl.Arrival, want []impl.Arrival) {
	t.Helper()
	if rows, ok := impl.Rows(q, list, inputs); !sameArrivals(rows, want) || !ok {
		t.Errorf("%s: %+v of %+v: %v %v, not %v", name, q, inputs, rows, ok, want)
	}
	if rows, ok := rowsAsTold(q, list, inputs); !sameArrivals(rows, want) || !ok {
		t.Errorf("%s, as told: %v %v, not %v", name, rows, ok, want)
	}
}

// mustSeeRows reads the query, and the rows that it is to see.
func mustSeeRows(t *testing.T, text string, list []impl.Source, inputs [][]impl.Arrival, want string) {
	t.Helper()
	mustSeeAll(t, text, asked(text), list, inputs, came(want))
}

// mustSeeNoRows: nor does anything come out.
func mustSeeNoRows(t *testing.T, name string, q impl.Query, list []impl.Source, inputs [][]impl.Arrival) {
	t.Helper()
	if rows, ok := impl.Rows(q, list, inputs); len(rows) > 0 || ok {
		t.Errorf("%s: %+v sees %v %v", name, q, rows, ok)
	}
	if rows, ok := impl.RunTable(q, list, inputs); len(rows) > 0 || ok {
		t.Errorf("%s: of %+v comes %v %v", name, q, rows, ok)
	}
	if rows, ok := rowsAsTold(q, list, inputs); len(rows) > 0 || ok {
		t.Errorf("%s, as told: %v %v", name, rows, ok)
	}
}

func TestRowsOfOneSource(t *testing.T) {
	list := sourcesIn("s a b", "t a b", "u! a b")
	inputs := [][]impl.Arrival{came("8:1,10 3:2,20 3:2,20 0:-3,0 1000000000000:1,5"), came("4:7,7"), came("5:8,8 6:8,8!")}
	mustSeeRows(t, "from s get a as x", list, inputs, "8:1,10 3:2,20 3:2,20 0:-3,0 1000000000000:1,5")
	mustSeeRows(t, "from t get 1 as x", list, inputs, "4:7,7")
	mustSeeRows(t, "from s group a session 5 get count as n", list, inputs, "8:1,10 3:2,20 3:2,20 0:-3,0 1000000000000:1,5")
	mustSeeRows(t, "from s get a as x", list, [][]impl.Arrival{nil, came("4:7,7"), nil}, "")
	mustSeeRows(t, "from s where a get a as x", list, [][]impl.Arrival{nil, nil, nil}, "")
	all := [][]impl.Arrival{slices.Repeat(came("4:7,7 3:1,1"), 150), nil, nil}
	mustSeeAll(t, "as many as can come", asked("from s get a as x"), list, all, all[0])
}

func TestRowsWhere(t *testing.T) {
	list, inputs := sourcesIn("s a b"), [][]impl.Arrival{came("1:0,1 2:5,2 3:-5,3 4:0,4 5:1,5 6:-1,6")}
	mustSeeRows(t, "from s where a get b as x", list, inputs, "2:5,2 3:-5,3 5:1,5 6:-1,6")
	mustSeeRows(t, "from s where (a < 0) get b as x", list, inputs, "3:-5,3 6:-1,6")
	mustSeeRows(t, "from s where (0 - a) get b as x", list, inputs, "2:5,2 3:-5,3 5:1,5 6:-1,6")
	mustSeeRows(t, "from s where (not a) get b as x", list, inputs, "1:0,1 4:0,4")
	mustSeeRows(t, "from s where (b % 2) get a as x", list, inputs, "1:0,1 3:-5,3 5:1,5")
	mustSeeRows(t, "from s where 1 get a as x", list, inputs, "1:0,1 2:5,2 3:-5,3 4:0,4 5:1,5 6:-1,6")
	mustSeeRows(t, "from s where 0 get a as x", list, inputs, "")
	mustSeeRows(t, "from s where (b / (b - b)) get a as x", list, inputs, "")
	mustSeeRows(t, "from s where (1000000000000000 + b) get a as x", list, inputs, "")
	mustSeeRows(t, "from s where (b < 3) group a get count as n", list, inputs, "1:0,1 2:5,2")
}

func TestRowsOfAJoin(t *testing.T) {
	list := sourcesIn("s a b", "t d a c", "k a")
	inputs := [][]impl.Arrival{came("3:1,10 8:2,20 12:1,30"), came("5:70,1,7 9:80,2,8 12:90,3,9"), came("4:1 4:1 20:2")}
	mustSeeRows(t, "from s join t within 2 on a get b as x", list, inputs, "5:1,10,70,7 9:2,20,80,8")
	mustSeeRows(t, "from s join t within 7 on a get b as x", list, inputs, "5:1,10,70,7 9:2,20,80,8 12:1,30,70,7")
	mustSeeRows(t, "from t join s within 7 on a get b as x", list, inputs, "5:70,1,7,10 12:70,1,7,30 9:80,2,8,20")
	mustSeeRows(t, "from s join k within 8 on a get b as x", list, inputs, "4:1,10 4:1,10 12:1,30 12:1,30")
	mustSeeRows(t, "from k join s within 12 on a get b as x", list, inputs, "4:1,10 12:1,30 4:1,10 12:1,30 20:2,20")
	mustSeeRows(t, "from s join t within 7 on a where (b < 25) get b as x", list, inputs, "5:1,10,70,7 9:2,20,80,8")
	mustSeeRows(t, "from s join t within 7 on a where (c = 7) get b as x", list, inputs, "5:1,10,70,7 12:1,30,70,7")
	mustSeeRows(t, "from s join t within 7 on a where (d < a) get b as x", list, inputs, "")
	mustSeeRows(t, "from s join t within 1000000000000 on a get b as x", list, [][]impl.Arrival{inputs[0], nil, nil}, "")
	mustSeeRows(t, "from s join t within 1000000000000 on a get b as x", list, [][]impl.Arrival{nil, inputs[1], nil}, "")
	mustSeeRows(t, "from s join t within 1000000000000 on a get b as x", list, [][]impl.Arrival{nil, nil, inputs[2]}, "")
	mustSeeRows(t, "from s join t within 7 on a group c,a get count as n", list, inputs, "5:1,10,70,7 9:2,20,80,8 12:1,30,70,7")
}

func TestRowsOfAJoinWithin(t *testing.T) {
	list := sourcesIn("s a b", "t a c")
	for _, within := range []int{0, 1, 2, 5, 1000, impl.MaxTime - 1, impl.MaxTime} {
		q := asked(fmt.Sprintf("from s join t within %d on a get 1 as x", within))
		for _, time := range []int{0, 7, 1000, impl.MaxTime / 2, impl.MaxTime - 1, impl.MaxTime} {
			for _, apart := range []int{0, 1, within - 1, within, within + 1} {
				for _, other := range []int{time - apart, time + apart} {
					if !inBounds(other, 0, impl.MaxTime) {
						continue
					}
					want := []impl.Arrival{}
					if inBounds(apart, -within, within) {
						want = cameAt("3,4,5", max(time, other))
					}
					mustSeeAll(t, fmt.Sprint("apart ", apart), q, list, [][]impl.Arrival{cameAt("3,4", time), cameAt("3,5", other)}, want)
				}
			}
		}
	}
}

// On may be any column of both.
func TestRowsOfAJoinOnAnyColumn(t *testing.T) {
	q := asked("from s join t within 0 on k get k as x")
	for left := range 4 {
		for right := range 4 {
			list := sourcesIn("s", "t")
			list[0].Cols = slices.Insert([]string{"a", "b", "c"}, left, "k")
			list[1].Cols = slices.Insert([]string{"d", "e", "f"}, right, "k")
			one, other, apart := slices.Insert([]int{1, 2, 3}, left, 9), slices.Insert([]int{4, 5, 6}, right, 9), slices.Insert([]int{9, 9, 9}, right, 8)
			inputs := [][]impl.Arrival{{{Time: 7, Row: one}}, {{Time: 7, Row: apart}, {Time: 7, Row: other}}}
			mustSeeAll(t, fmt.Sprint("On at ", left, " and ", right), q, list, inputs, []impl.Arrival{{Time: 7, Row: slices.Concat(one, []int{4, 5, 6})}})
			list[1].Table, list[1].Cols = true, []string{"k", "d", "e", "f"}
			inputs[1] = []impl.Arrival{{Time: 7, Row: []int{8, 9, 9, 9}}, {Time: 7, Row: []int{9, 4, 5, 6}}}
			mustSeeAll(t, fmt.Sprint("a Lookup on ", left), asked("from s lookup t on k get k as x"), list, inputs, []impl.Arrival{{Time: 7, Row: slices.Concat(one, []int{4, 5, 6})}})
		}
	}
}

// The rows stand by the arrivals of From first, whatever the times.
func TestRowsOfAJoinStandInOrder(t *testing.T) {
	list, q := sourcesIn("s a b", "t a c"), asked("from s join t within 100 on a get b as x")
	r := rand.New(rand.NewSource(181))
	for range 200 {
		left, right := came("1:1,10 2:1,11 3:1,12 4:1,13"), came("1:1,20 2:1,21 3:1,22")
		r.Shuffle(len(left), func(i, j int) { left[i], left[j] = left[j], left[i] })
		r.Shuffle(len(right), func(i, j int) { right[i], right[j] = right[j], right[i] })
		want := []impl.Arrival{}
		for _, a := range left {
			for _, b := range right {
				want = append(want, impl.Arrival{Time: max(a.Time, b.Time), Row: []int{1, a.Row[1], b.Row[1]}})
			}
		}
		mustSeeAll(t, "shuffled", q, list, [][]impl.Arrival{left, right}, want)
		mustSeeAll(t, "sources the other way round", q, []impl.Source{list[1], list[0]}, [][]impl.Arrival{right, left}, want)
	}
}

func TestRowsOfASourceJoinedWithItself(t *testing.T) {
	list, inputs := sourcesIn("s a"), [][]impl.Arrival{came("1:5 3:5 9:6 4:5")}
	mustSeeRows(t, "from s join s within 2 on a get a as x", list, inputs, "1:5 3:5 3:5 3:5 4:5 9:6 4:5 4:5")
	mustSeeRows(t, "from s join s within 0 on a get a as x", list, inputs, "1:5 3:5 9:6 4:5")
}

func TestRowsOfALookup(t *testing.T) {
	list := sourcesIn("s b a", "u! a c d", "k! a")
	users := came("2:1,40,5 10:1,41,6 1:2,50,7 4:2,0,0! 6:2,51,8")
	inputs := [][]impl.Arrival{came("3:10,1 8:20,2 12:30,1"), users, came("5:1")}
	mustSeeRows(t, "from s lookup u on a get b as x", list, inputs, "3:10,1,40,5 8:20,2,51,8 12:30,1,41,6")
	mustSeeRows(t, "from s lookup k on a get b as x", list, inputs, "12:30,1")
	mustSeeRows(t, "from s lookup u on a where (c < 41) get b as x", list, inputs, "3:10,1,40,5")
	mustSeeRows(t, "from s lookup u on a where (d - 8) get b as x", list, inputs, "3:10,1,40,5 12:30,1,41,6")
	mustSeeRows(t, "from s lookup u on a group d,a tumble 5 get sum c as n", list, inputs, "3:10,1,40,5 8:20,2,51,8 12:30,1,41,6")
	for time, want := range map[int]string{0: "", 1: "1:7,2,50,7", 3: "3:7,2,50,7", 4: "", 5: "", 6: "6:7,2,51,8", 7: "7:7,2,51,8", impl.MaxTime: "1000000000000:7,2,51,8"} {
		mustSeeRows(t, "from s lookup u on a get b as x", list, [][]impl.Arrival{cameAt("7,2", time), users, nil}, want)
		mustSeeRows(t, "from s lookup u on a get b as x", list, [][]impl.Arrival{cameAt("2,3", time), users, nil}, "")
		mustSeeRows(t, "from s lookup u on a get b as x", list, [][]impl.Arrival{cameAt("7,2", time), nil, users[:0]}, "")
	}
	mustSeeRows(t, "from s lookup u on a get b as x", list, [][]impl.Arrival{nil, users, nil}, "")
	mustSeeRows(t, "from s lookup u on a get b as x", list, [][]impl.Arrival{came("5:1,1 5:2,1 4:3,1"), came("5:1,10,1 5:1,20,2 5:1,30,3"), nil}, "5:1,1,30,3 5:2,1,30,3")
	mustSeeRows(t, "from s lookup u on a get b as x", list, [][]impl.Arrival{came("5:1,1"), came("5:1,30,3 5:1,10,1!"), nil}, "")
	mustSeeRows(t, "from s lookup u on a get b as x", list, [][]impl.Arrival{came("5:1,1"), came("5:1,10,1! 5:1,30,3"), nil}, "5:1,1,30,3")
	mustSeeRows(t, "from s lookup u on a get b as x", list, [][]impl.Arrival{came("5:1,1"), came("6:1,30,3 4:1,20,2 5:1,10,1! 3:1,30,3"), nil}, "")
}

// The rows have a number for each column of Inside, what they tell by its name being what came.
func TestRowsHaveTheColumnsOfInside(t *testing.T) {
	list := sourcesIn("s a b c", "t e b d", "u! b f g")
	inputs := [][]impl.Arrival{came("5:1,2,3"), came("6:4,2,5"), came("4:2,6,7")}
	for text, want := range map[string]string{
		"from s get a as x": "5:1,2,3", "from t get b as x": "6:4,2,5",
		"from s join t within 1 on b get a as x": "6:1,2,3,4,5", "from t join s within 1 on b get a as x": "6:4,2,5,1,3",
		"from s lookup u on b get a as x": "5:1,2,3,6,7", "from t lookup u on b get d as x": "6:4,2,5,6,7",
	} {
		mustSeeRows(t, text, list, inputs, want)
		if cols := impl.Inside(asked(text), list); len(cols) != len(came(want)[0].Row) {
			t.Errorf("%s: %v", text, cols)
		}
	}
	cols := colNames(13)
	wide := []impl.Source{{Name: "s", Cols: cols[:6]}, {Name: "t", Cols: cols[5:12]}, {Name: "u", Cols: cols[5:13]}}
	inputs = [][]impl.Arrival{came("5:0,1,2,3,4,5"), came("5:5,6,7,8,9,10,11"), came("5:5,6,7,8,9,10,11,12")}
	mustSeeRows(t, "from s join t within 1 on c5 get c0 as x", wide, inputs, "5:0,1,2,3,4,5,6,7,8,9,10,11")
	mustSeeNoRows(t, "more than MaxCols", asked("from s join u within 1 on c5 get c0 as x"), wide, inputs)
}

// crossing is inputs of s and t that a Join on a puts together to so many rows, those of the keys one by one.
func crossing(products ...[2]int) [][]impl.Arrival {
	inputs := make([][]impl.Arrival, 2)
	for key, x := range products {
		for range x[0] {
			inputs[0] = append(inputs[0], impl.Arrival{Time: 3, Row: []int{key, 1}})
		}
		for range x[1] {
			inputs[1] = append(inputs[1], impl.Arrival{Time: 4, Row: []int{key, 2}})
		}
	}
	return inputs
}

func TestRowsUpToMaxJoined(t *testing.T) {
	list := sourcesIn("s a b", "t a c")
	queries := []string{"from s join t within 1 on a get b as x", "from t join s within 1 on a get b as x", "from s join t within 1 on a where 0 get b as x", "from s join t within 1 on a where (a = 1) get c as x", "from s join t within 1 on a group a,b tumble 5 get count as n"}
	for _, text := range queries {
		for name, inputs := range map[string][][]impl.Arrival{"50 and 60": crossing([2]int{50, 60}), "20 and 150": crossing([2]int{20, 150}), "in parts": crossing([2]int{1, 1}, [2]int{1, 99}, [2]int{29, 100}), "the others first": crossing([2]int{0, 5}, [2]int{5, 0}, [2]int{50, 60})} {
			want, ok := rowsAsTold(asked(text), list, inputs)
			if all := len(joinedAsTold(asked(text), list, inputs)); !ok || all != 3000 {
				t.Fatalf("%s: %d rows", name, all)
			}
			mustSeeAll(t, name, asked(text), list, inputs, want)
			if _, ok := impl.RunTable(asked(text), list, inputs); !ok {
				t.Errorf("%s, %s: nothing comes out", name, text)
			}
		}
		for name, inputs := range map[string][][]impl.Arrival{"one more at the end": crossing([2]int{50, 60}, [2]int{1, 1}), "one more at the beginning": crossing([2]int{1, 1}, [2]int{50, 60}), "one more between": crossing([2]int{30, 60}, [2]int{1, 1}, [2]int{20, 60}), "some more": crossing([2]int{50, 61}), "many more": crossing([2]int{150, 150})} {
			mustSeeNoRows(t, name, asked(text), list, inputs)
		}
	}
	// A Lookup has no more rows than arrivals.
	table := sourcesIn("s a b", "t! a c")
	inputs := crossing([2]int{150, 150})
	for i := range inputs[0] {
		inputs[0][i].Time = 9
	}
	mustSeeAll(t, "a Lookup", asked("from s lookup t on a get b as x"), table, inputs, cameAt("0,1,2", slices.Repeat([]int{9}, 150)...))
}

func TestRowsOfWhatIsNotRight(t *testing.T) {
	list := sourcesIn("s a b", "t a c", "u! a d")
	inputs := [][]impl.Arrival{came("3:1,10"), came("4:1,20"), came("2:1,30")}
	good := asked("from s join t within 5 on a get b as x")
	mustSeeAll(t, "as it is", good, list, inputs, came("4:1,10,20"))
	change := func(do func(q *impl.Query)) impl.Query {
		q := plainQuery(good)
		do(&q)
		return q
	}
	mustSeeNoRows(t, "no query", impl.Query{}, list, inputs)
	mustSeeNoRows(t, "a Within that is none", change(func(q *impl.Query) { q.Within = -1 }), list, inputs)
	mustSeeNoRows(t, "no expression", change(func(q *impl.Query) { q.Gets[0].Steps = nil }), list, inputs)
	mustSeeNoRows(t, "a Where that is none", change(func(q *impl.Query) { q.Where = stepsIn("a a") }), list, inputs)
	mustSeeNoRows(t, "a Window without Groups", change(func(q *impl.Query) { q.Window, q.Size = 1, 5 }), list, inputs)
	mustSeeNoRows(t, "a column that is none", change(func(q *impl.Query) { q.Where = stepsIn("d") }), list, inputs)
	mustSeeNoRows(t, "no Gets", change(func(q *impl.Query) { q.Gets = nil }), list, inputs)
	for _, text := range []string{
		"from v get 1 as x", "from s join v within 5 on a get b as x", "from s lookup v on a get b as x", "from u get a as x", "from s join u within 5 on a get b as x", "from s lookup t on a get b as x",
		"from s join t within 5 on b get b as x", "from s join s within 5 on a get b as x", "from s lookup u on b get b as x", "from s get c as x", "from s where c get a as x", "from s group c get count as n",
		// These see something, but a column of what comes out stands twice.
		"from s get a as x, b as x", "from s group a get count as a", "from s group a tumble 5 get count as start", "from s group a,b session 5 get count as n, sum a as n",
	} {
		mustSeeNoRows(t, text, asked(text), list, inputs)
	}
	mustSeeNoRows(t, "a source twice", good, append(slices.Clone(list), list[0]), append(slices.Clone(inputs), inputs[0]))
	mustSeeNoRows(t, "no sources", good, nil, nil)
	mustSeeNoRows(t, "no inputs", good, list, nil)
	mustSeeNoRows(t, "one input fewer", good, list, inputs[:2])
	mustSeeNoRows(t, "one input more", good, list, append(slices.Clone(inputs), nil))
	for at := range inputs {
		for _, a := range []impl.Arrival{{Time: -1, Row: []int{1, 2}}, {Time: impl.MaxTime + 1, Row: []int{1, 2}}, {Time: 3, Row: []int{1}}, {Time: 3, Row: []int{1, 2, 3}}, {Time: 3}, {Time: 3, Row: []int{mostNumber + 1, 2}}, {Time: 3, Row: []int{1, -mostNumber - 1}}} {
			spoilt := slices.Clone(inputs)
			spoilt[at] = append(slices.Clone(spoilt[at]), a)
			mustSeeNoRows(t, "an arrival that is not right", good, list, spoilt)
			mustSeeNoRows(t, "an arrival that is not right", asked("from t get c as x"), list, spoilt)
		}
		spoilt := slices.Clone(inputs)
		spoilt[at] = slices.Repeat(came("9:1,1"), 299)
		mustSeeNoRows(t, "too many arrivals", asked("from t get c as x"), list, spoilt)
	}
	mustSeeNoRows(t, "Gone in a stream", good, list, [][]impl.Arrival{came("3:1,10!"), inputs[1], inputs[2]})
	mustSeeNoRows(t, "Gone in the other stream", good, list, [][]impl.Arrival{inputs[0], came("4:1,20!"), inputs[2]})
}

// randomInputs are right for sources: their numbers and times are often alike.
func randomInputs(r *rand.Rand, list []impl.Source) [][]impl.Arrival {
	inputs, span := [][]impl.Arrival{}, pick(r, 2, 10, 60, 300, 1000, impl.MaxTime+1)
	for _, s := range list {
		arrivals := []impl.Arrival{}
		for range pick(r, 0, 1, 3, 8, 8, 20) {
			a := impl.Arrival{Time: r.Intn(span), Gone: s.Table && r.Intn(4) == 0}
			if r.Intn(10) == 0 {
				a.Time = pick(r, 0, 1, impl.MaxTime-1, impl.MaxTime)
			}
			for range s.Cols {
				a.Row = append(a.Row, pick(r, 1, 1, 1, 2, 2, -1, 0, randomNumber(r)))
			}
			arrivals = append(arrivals, a)
		}
		inputs = append(inputs, arrivals)
	}
	return inputs
}

func spoilInputs(r *rand.Rand, inputs [][]impl.Arrival) [][]impl.Arrival {
	at := r.Intn(len(inputs))
	if len(inputs[at]) == 0 {
		return inputs[:at]
	}
	a := &inputs[at][r.Intn(len(inputs[at]))]
	switch r.Intn(5) {
	case 0:
		a.Gone = true
	case 1:
		a.Row = append(a.Row, 1)
	case 2:
		a.Row[r.Intn(len(a.Row))] = pick(r, mostNumber+1, -mostNumber-1, mostNumber)
	case 3:
		a.Time = pick(r, -1, 0, impl.MaxTime, impl.MaxTime+1)
	default:
		return append(inputs, nil)
	}
	return inputs
}

// tableToTry is a query, its sources and inputs; most of them are right, and see something.
func tableToTry(r *rand.Rand) (impl.Query, []impl.Source, [][]impl.Arrival) {
	q := randomQuery(r)
	list := randomSources(r, q)
	q = fewCols(r, q, list)
	inputs := randomInputs(r, list)
	switch r.Intn(25) {
	case 0:
		q = spoilQuery(r, q)
	case 1:
		list = spoilSources(r, list)
	case 2:
		inputs = spoilInputs(r, inputs)
	}
	return q, list, inputs
}

func TestRowsOfQueriesAreAsTold(t *testing.T) {
	r := rand.New(rand.NewSource(182))
	seen := map[string]int{}
	for range 20000 {
		q, list, inputs := tableToTry(r)
		if impl.InputsOk(list, inputs) != inputsOkAsTold(list, inputs) {
			t.Fatalf("not as told: %+v %+v", list, inputs)
		}
		want, ok := rowsAsTold(q, list, inputs)
		if !ok {
			mustSeeNoRows(t, "at random", q, list, inputs)
			seen["nothing"]++
			continue
		}
		mustSeeAll(t, "at random", q, list, inputs, want)
		switch {
		case len(want) == 0:
			seen["no rows"]++
		case q.Join != "":
			seen["joined"]++
		case q.Lookup != "":
			seen["looked up"]++
		default:
			seen["of one"]++
		}
		if t.Failed() {
			t.Fatalf("%+v %+v %+v", q, list, inputs)
		}
	}
	for _, kind := range strings.Split("nothing,no rows,joined,looked up,of one", ",") {
		if seen[kind] < 500 {
			t.Error("the queries are too much alike:", seen)
		}
	}
}
