package tests

import (
	"cmp"
	"fmt"
	"math"
	"math/rand"
	"slices"
	"strconv"
	"strings"
	"testing"

	"loop.example/g00035/impl"
)

func TestLimitsOfTables(t *testing.T) {
	if limits := []int{impl.MaxArrivals, impl.MaxJoined}; !slices.Equal(limits, []int{300, 3000}) {
		t.Error("a limit is another than the document's:", limits)
	}
}

// numbersIn reads numbers with a comma between each two.
func numbersIn(text string) []int {
	list := []int{}
	for _, word := range strings.FieldsFunc(text, func(c rune) bool { return c == ',' }) {
		n, err := strconv.Atoi(word)
		if err != nil {
			panic("no number: " + word)
		}
		list = append(list, n)
	}
	return list
}

// came reads arrivals from words: a Time, a colon, a Row, and a `!` behind one that is Gone.
func came(text string) []impl.Arrival {
	list := []impl.Arrival{}
	for _, word := range strings.Fields(text) {
		time, row, _ := strings.Cut(word, ":")
		row, gone := strings.CutSuffix(row, "!")
		list = append(list, impl.Arrival{Time: numbersIn(time)[0], Row: numbersIn(row), Gone: gone})
	}
	return list
}

// cameAt are arrivals of one Row, one at each time.
func cameAt(row string, times ...int) []impl.Arrival {
	list := []impl.Arrival{}
	for _, time := range times {
		list = append(list, impl.Arrival{Time: time, Row: numbersIn(row)})
	}
	return list
}

func sameArrivals(a []impl.Arrival, b []impl.Arrival) bool {
	return slices.EqualFunc(a, b, func(x, y impl.Arrival) bool {
		return x.Time == y.Time && x.Gone == y.Gone && slices.Equal(x.Row, y.Row)
	})
}

func inputsOkAsTold(list []impl.Source, inputs [][]impl.Arrival) bool {
	ok, count := sourcesOkAsTold(list) && len(inputs) == len(list), 0
	for i, arrivals := range inputs {
		for _, a := range arrivals {
			count++
			ok = ok && inBounds(a.Time, 0, 1000000000000) && len(a.Row) == len(list[i].Cols) && (!a.Gone || list[i].Table)
			for _, n := range a.Row {
				ok = ok && inBounds(n, -mostNumber, mostNumber)
			}
		}
	}
	return ok && count <= 300
}

// mustTakeInputs: where inputs are not right, no query comes to anything.
func mustTakeInputs(t *testing.T, name string, list []impl.Source, inputs [][]impl.Arrival, want bool) {
	t.Helper()
	if impl.InputsOk(list, inputs) != want {
		t.Errorf("%s: not %v: %+v %+v", name, want, list, inputs)
	}
	if inputsOkAsTold(list, inputs) != want {
		t.Errorf("%s, as told: not %v", name, want)
	}
	for _, s := range list {
		q := impl.Query{From: s.Name, Gets: []impl.Get{getting(0, "1", "x")}}
		grouped := impl.Query{From: s.Name, Groups: slices.Clone(s.Cols[:min(len(s.Cols), 1)]), Gets: []impl.Get{getting(1, "", "count")}}
		sees := want && !s.Table
		if rows, ok := impl.Rows(q, list, inputs); ok != sees || !sees && len(rows) > 0 {
			t.Errorf("%s: rows %v %v", name, rows, ok)
		}
		if rows, ok := impl.RunTable(q, list, inputs); ok != sees || !sees && len(rows) > 0 {
			t.Errorf("%s: what comes out %v %v", name, rows, ok)
		}
		if rows, ok := impl.RunTable(grouped, list, inputs); ok != sees || !sees && len(rows) > 0 {
			t.Errorf("%s: what comes out of groups %v %v", name, rows, ok)
		}
	}
}

func TestInputsOk(t *testing.T) {
	mustTakeInputs(t, "none", nil, nil, true)
	mustTakeInputs(t, "none", []impl.Source{}, [][]impl.Arrival{}, true)
	list := sourcesIn("s a b", "u! a c d")
	mustTakeInputs(t, "some", list, [][]impl.Arrival{came("3:1,10 2:1,10 9:-5,0"), came("7:1,2,3 7:1,2,3 0:4,5,6!")}, true)
	mustTakeInputs(t, "empty lists", list, [][]impl.Arrival{{}, nil}, true)
	mustTakeInputs(t, "the other way round", list, [][]impl.Arrival{came("7:1,2,3"), came("3:1,10")}, false)
	mustTakeInputs(t, "one is not right", list, [][]impl.Arrival{came("3:1,10 3:1 3:1,10"), came("7:1,2,3")}, false)
	mustTakeInputs(t, "the last one is not right", list, [][]impl.Arrival{came("3:1,10"), came("7:1,2,3 7:1,2")}, false)
}

func TestInputsAreAsManyAsSources(t *testing.T) {
	for sources := range 11 {
		for count := range 13 {
			name := fmt.Sprint("sources and inputs ", sources, " ", count)
			mustTakeInputs(t, name, manySources(sources), make([][]impl.Arrival, count), sources == count)
			mustTakeInputs(t, name+", all with arrivals", manySources(sources), slices.Repeat([][]impl.Arrival{came("3:1")}, count), sources == count)
		}
	}
}

func TestInputsOfSourcesThatAreNotRight(t *testing.T) {
	mustTakeInputs(t, "a source twice", sourcesIn("s a", "s a"), [][]impl.Arrival{came("3:1"), came("3:1")}, false)
	mustTakeInputs(t, "a column twice", sourcesIn("s a a"), [][]impl.Arrival{came("3:1,1")}, false)
	mustTakeInputs(t, "no columns", sourcesIn("s"), [][]impl.Arrival{nil}, false)
	mustTakeInputs(t, "no columns behind another", sourcesIn("s a", "t"), [][]impl.Arrival{nil, nil}, false)
	mustTakeInputs(t, "too many sources", manySources(11), make([][]impl.Arrival, 11), false)
	for _, name := range noNames {
		mustTakeInputs(t, fmt.Sprintf("a source %q", name), []impl.Source{{Name: name, Cols: []string{"a"}}}, [][]impl.Arrival{nil}, false)
		mustTakeInputs(t, fmt.Sprintf("a column %q", name), []impl.Source{{Name: "s", Cols: []string{name}}}, [][]impl.Arrival{nil}, false)
	}
}

func TestInputsUpToMaxArrivals(t *testing.T) {
	for count := 298; count <= 303; count++ {
		all := slices.Repeat(came("3:1"), count)
		mustTakeInputs(t, fmt.Sprint("of one source ", count), sourcesIn("s a"), [][]impl.Arrival{all}, count <= 300)
		for first := range 11 {
			mustTakeInputs(t, fmt.Sprint("of two sources ", first, " of ", count), sourcesIn("s a", "u! a"), [][]impl.Arrival{all[:first*count/10], all[first*count/10:]}, count <= 300)
		}
		spread := make([][]impl.Arrival, 10)
		for i, a := range all {
			spread[i%10] = append(spread[i%10], a)
		}
		mustTakeInputs(t, fmt.Sprint("of all sources ", count), manySources(10), spread, count <= 300)
	}
	mustTakeInputs(t, "many more", sourcesIn("s a"), [][]impl.Arrival{slices.Repeat(came("3:1"), 5000)}, false)
}

// mustTakeArrival: the arrival of a stream of those columns is right, or not, wherever it stands; of a table likewise.
func mustTakeArrival(t *testing.T, name string, a impl.Arrival, cols int, stream bool, table bool) {
	t.Helper()
	good := impl.Arrival{Time: 5, Row: make([]int, cols)}
	for i, want := range []bool{stream, table} {
		list := []impl.Source{{Name: "s", Cols: []string{"a"}}, {Name: "t", Table: i == 1, Cols: colNames(cols)}}
		for _, arrivals := range [][]impl.Arrival{{a}, {a, good}, {good, a}, {good, a, good}} {
			mustTakeInputs(t, fmt.Sprint(name, ", table: ", i == 1), list, [][]impl.Arrival{came("3:1"), arrivals}, want)
		}
	}
}

func TestInputsTimes(t *testing.T) {
	for _, time := range []int{math.MinInt, -impl.MaxTime, -2, -1, 0, 1, 2, impl.MaxTime - 1, impl.MaxTime, impl.MaxTime + 1, impl.MaxTime + 2, math.MaxInt} {
		want := inBounds(time, 0, 1000000000000)
		mustTakeArrival(t, fmt.Sprint("a Time ", time), impl.Arrival{Time: time, Row: []int{1, 2}}, 2, want, want)
		mustTakeArrival(t, fmt.Sprint("a Time of what is Gone ", time), impl.Arrival{Time: time, Row: []int{1, 2}, Gone: true}, 2, false, want)
	}
}

func TestInputsRows(t *testing.T) {
	for cols := 1; cols <= 12; cols++ {
		for length := range 14 {
			name := fmt.Sprint("columns and numbers ", cols, " ", length)
			mustTakeArrival(t, name, impl.Arrival{Time: 5, Row: make([]int, length)}, cols, cols == length, cols == length)
			mustTakeArrival(t, name+", Gone", impl.Arrival{Time: 5, Row: make([]int, length), Gone: true}, cols, false, cols == length)
		}
		mustTakeArrival(t, fmt.Sprint("no Row for columns ", cols), impl.Arrival{Time: 5}, cols, false, false)
		mustTakeArrival(t, fmt.Sprint("no Row, Gone, for columns ", cols), impl.Arrival{Time: 5, Gone: true}, cols, false, false)
	}
}

func TestInputsNumbers(t *testing.T) {
	for _, n := range []int{math.MinInt, -2 * mostNumber, -mostNumber - 1, -mostNumber, 1 - mostNumber, -1, 0, 1, mostNumber - 1, mostNumber, mostNumber + 1, 2 * mostNumber, math.MaxInt} {
		for at := range 3 {
			row, want := []int{1, 2, 3}, inBounds(n, -mostNumber, mostNumber)
			row[at] = n
			mustTakeArrival(t, fmt.Sprint("a number ", n, " at ", at), impl.Arrival{Time: 5, Row: row}, 3, want, want)
			mustTakeArrival(t, fmt.Sprint("a number of what is Gone ", n, " at ", at), impl.Arrival{Time: 5, Row: row, Gone: true}, 3, false, want)
		}
	}
}

func latestAsTold(list []impl.Arrival, key int, time int) ([]int, bool) {
	of := slices.DeleteFunc(slices.Clone(list), func(a impl.Arrival) bool { return len(a.Row) == 0 || a.Row[0] != key || a.Time > time })
	slices.SortStableFunc(of, func(a, b impl.Arrival) int { return cmp.Compare(a.Time, b.Time) })
	if len(of) == 0 || of[len(of)-1].Gone {
		return nil, false
	}
	return of[len(of)-1].Row, true
}

// mustFind: want is a Row, or empty where there is none.
func mustFind(t *testing.T, list string, key int, time int, want string) {
	t.Helper()
	there := want != ""
	if row, ok := impl.LatestAt(came(list), key, time); !slices.Equal(row, numbersIn(want)) || ok != there {
		t.Errorf("%s, %d at %d: %v %v, not %q", list, key, time, row, ok, want)
	}
	if row, ok := latestAsTold(came(list), key, time); !slices.Equal(row, numbersIn(want)) || ok != there {
		t.Errorf("%s, %d at %d, as told: %v %v, not %q", list, key, time, row, ok, want)
	}
}

func TestLatestAt(t *testing.T) {
	mustFind(t, "", 1, 5, "")
	for time, want := range []string{"", "", "1,40", "1,40", "1,41", "1,41", "1,41"} {
		mustFind(t, "2:1,40 4:1,41", 1, time, want)
		mustFind(t, "4:1,41 2:1,40", 1, time, want)
		mustFind(t, "4:1,41 0:2,7 9:1,5 2:1,40 3:2,8 4:3,9", 1, time, want)
		mustFind(t, "2:1,40 4:1,41", 2, time, "")
		mustFind(t, "2:1,40 4:1,41", 40, time, "")
		mustFind(t, "2:1,40 4:1,41", -1, time, "")
	}
	mustFind(t, "0:0,0", 0, 0, "0,0")
	mustFind(t, "0:7", 7, 0, "7")
	mustFind(t, "1000000000000:-7,1", -7, impl.MaxTime, "-7,1")
	mustFind(t, "1000000000000:-7,1", -7, impl.MaxTime-1, "")
	mustFind(t, "3:1000000000000000,1 3:-1000000000000000,2", -mostNumber, 3, "-1000000000000000,2")
}

func TestLatestAtOfAlikeTimes(t *testing.T) {
	mustFind(t, "3:1,10 3:1,20", 1, 3, "1,20")
	mustFind(t, "3:1,20 3:1,10", 1, 3, "1,10")
	mustFind(t, "3:1,10 3:1,20 3:2,30", 1, 9, "1,20")
	mustFind(t, "3:1,10 5:1,50 3:1,20", 1, 4, "1,20")
	mustFind(t, "3:1,10 5:1,50 3:1,20", 1, 5, "1,50")
	mustFind(t, "3:1,10 2:1,50 3:1,20 2:1,60", 1, 9, "1,20")
	mustFind(t, "0:1,10 0:1,20 0:1,30", 1, 0, "1,30")
}

func TestLatestAtOfWhatIsGone(t *testing.T) {
	mustFind(t, "3:1,10!", 1, 3, "")
	mustFind(t, "3:1,10 5:1,0!", 1, 4, "1,10")
	mustFind(t, "3:1,10 5:1,0!", 1, 5, "")
	mustFind(t, "3:1,10 5:1,0!", 1, 99, "")
	mustFind(t, "5:1,0! 3:1,10", 1, 99, "")
	for time, want := range []string{"", "1,10", "", "1,30", "1,30", ""} {
		mustFind(t, "1:1,10 2:1,20! 3:1,30 5:1,0!", 1, time, want)
		mustFind(t, "5:1,0! 3:1,30 2:1,20! 1:1,10", 1, time, want)
	}
	mustFind(t, "3:1,10! 3:1,20", 1, 3, "1,20")
	mustFind(t, "3:1,20 3:1,10!", 1, 3, "")
	mustFind(t, "3:1,20 3:1,10! 3:1,30", 1, 3, "1,30")
	mustFind(t, "3:1,10 4:2,0!", 1, 9, "1,10")
	mustFind(t, "3:1,10 4:2,0!", 2, 9, "")
}

func TestLatestAtWithoutAFirstNumber(t *testing.T) {
	mustFind(t, "3:", 0, 9, "")
	mustFind(t, "3:!", 0, 9, "")
	mustFind(t, "3:0,5 4: 5:", 0, 9, "0,5")
	mustFind(t, "4: 3:0,5 5:!", 0, 9, "0,5")
	if row, ok := impl.LatestAt([]impl.Arrival{{Time: 1}, {Time: 2, Row: []int{}}}, 0, 9); len(row) > 0 || ok {
		t.Error("no first number:", row, ok)
	}
}

// Arrivals that no input has, and times that are none, are asked likewise.
func TestLatestAtAnswersAnything(t *testing.T) {
	for _, time := range []int{math.MinInt, -1, impl.MaxTime + 1, math.MaxInt} {
		for _, key := range []int{math.MinInt, -1, 0, math.MaxInt} {
			list := []impl.Arrival{{Time: time, Row: []int{key, 1, 2, 3}}, {Time: 5, Row: []int{key}}}
			for _, at := range []int{math.MinInt, -1, 0, 5, impl.MaxTime + 1, math.MaxInt} {
				row, ok := impl.LatestAt(list, key, at)
				if want, same := latestAsTold(list, key, at); !slices.Equal(row, want) || ok != same {
					t.Errorf("%+v, %d at %d: %v %v, not %v %v", list, key, at, row, ok, want, same)
				}
			}
		}
	}
}

func TestLatestAtIsAsTold(t *testing.T) {
	r := rand.New(rand.NewSource(180))
	there, gone := 0, 0
	for range 20000 {
		list := []impl.Arrival{}
		for range r.Intn(10) {
			a := impl.Arrival{Time: r.Intn(6), Gone: r.Intn(4) == 0}
			if r.Intn(10) > 0 {
				a.Row = []int{r.Intn(3), r.Intn(1000)}
			}
			list = append(list, a)
		}
		key, time := r.Intn(3), r.Intn(7)
		row, ok := impl.LatestAt(list, key, time)
		if want, same := latestAsTold(list, key, time); !slices.Equal(row, want) || ok != same {
			t.Fatalf("%+v, %d at %d: %v %v, not %v %v", list, key, time, row, ok, want, same)
		}
		if ok {
			there++
		} else {
			gone++
		}
	}
	if there < 5000 || gone < 5000 {
		t.Error("the arrivals are too much alike:", there, gone)
	}
}
