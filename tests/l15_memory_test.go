package tests

import (
	"math/rand"
	"reflect"
	"runtime"
	"slices"
	"sync"
	"testing"
	"time"

	"loop.example/g00035/impl"
)

var arrivalBehind = impl.Arrival{Time: -7, Row: []int{-7}, Gone: true}

func plainInputs(inputs [][]impl.Arrival) [][]impl.Arrival {
	inputs = slices.Clone(inputs)
	for i, arrivals := range inputs {
		inputs[i] = slices.Clone(arrivals)
		for k, a := range arrivals {
			inputs[i][k].Row = append([]int(nil), a.Row...)
		}
	}
	return inputs
}

// roomyInputs are a copy all of whose lists have spare room behind them, filled with what must stay.
func roomyInputs(inputs [][]impl.Arrival) [][]impl.Arrival {
	inputs = plainInputs(inputs)
	for i, arrivals := range inputs {
		for k, a := range arrivals {
			arrivals[k].Row = withRoom(a.Row, -7)
		}
		inputs[i] = withRoom(arrivals, arrivalBehind)
	}
	return withRoom(inputs, []impl.Arrival{arrivalBehind})
}

func wholeInputs(inputs [][]impl.Arrival) [][]impl.Arrival {
	inputs = withAllRoom(inputs)
	for i, arrivals := range inputs {
		inputs[i] = withAllRoom(arrivals)
		for k, a := range inputs[i] {
			inputs[i][k].Row = withAllRoom(a.Row)
		}
	}
	return inputs
}

// A tableTry is what the functions of tables are asked with.
type tableTry struct {
	q      impl.Query
	list   []impl.Source
	inputs [][]impl.Arrival
	times  []int
}

func newTableTry(r *rand.Rand) tableTry {
	q, list, inputs := tableToTry(r)
	return tableTry{roomyQuery(q), roomySources(list), roomyInputs(inputs), withRoom(randomTimes(r, max(q.Size, 1)), -7)}
}

// bare is the same without spare room.
func (x tableTry) bare() tableTry {
	return tableTry{plainQuery(x.q), plainSources(x.list), plainInputs(x.inputs), slices.Clip(slices.Clone(x.times))}
}

// whole tells all of it with all that stands in the room behind its lists.
func (x tableTry) whole() tableTry {
	return tableTry{wholeQuery(x.q), wholeSources(x.list), wholeInputs(x.inputs), withAllRoom(x.times)}
}

// A tableAnswer is all that is answered of a try.
type tableAnswer struct {
	right   bool
	latest  [][]int
	found   []bool
	rows    []impl.Arrival
	seen    bool
	windows [][]int
	out     [][]int
	told    bool
}

func (x tableTry) ask() tableAnswer {
	y := tableAnswer{right: impl.InputsOk(x.list, x.inputs), windows: impl.Windows(x.q, x.times)}
	y.rows, y.seen = impl.Rows(x.q, x.list, x.inputs)
	y.out, y.told = impl.RunTable(x.q, x.list, x.inputs)
	for _, arrivals := range x.inputs {
		for key := range 3 {
			row, ok := impl.LatestAt(arrivals, key, 5)
			y.latest, y.found = append(y.latest, row), append(y.found, ok)
		}
	}
	return y
}

func sameAnswer(a tableAnswer, b tableAnswer) bool {
	same := a.right == b.right && a.seen == b.seen && a.told == b.told && slices.Equal(a.found, b.found)
	return same && sameRows(a.latest, b.latest) && sameRows(a.windows, b.windows) && sameRows(a.out, b.out) && sameArrivals(a.rows, b.rows)
}

func TestTableRunsLeaveArgumentsAlone(t *testing.T) {
	r := rand.New(rand.NewSource(187))
	for range 5000 {
		x := newTableTry(r)
		was := x.whole()
		x.ask()
		if !reflect.DeepEqual(x.whole(), was) {
			t.Fatalf("an argument was changed: %+v, now %+v", was, x.whole())
		}
	}
}

// What lies behind a list's length is not looked at.
func TestTableRunsLookNotBehindTheLength(t *testing.T) {
	r := rand.New(rand.NewSource(188))
	for range 5000 {
		x := newTableTry(r)
		if got, want := x.ask(), x.bare().ask(); !sameAnswer(got, want) {
			t.Fatalf("another answer with room: %+v: %+v, not %+v", x.bare(), got, want)
		}
	}
}

func overwriteNumbers(rows [][]int) {
	for i, row := range rows {
		for k := range row {
			row[k] = -7
		}
		_ = append(row, -7, -7, -7)
		rows[i] = nil
	}
	_ = append(rows, []int{-7})
}

func (y tableAnswer) overwrite() {
	for i, a := range y.rows {
		overwriteNumbers([][]int{a.Row})
		y.rows[i] = arrivalBehind
	}
	_ = append(y.rows, arrivalBehind)
	overwriteNumbers(y.latest)
	overwriteNumbers(y.windows)
	overwriteNumbers(y.out)
}

func TestTableRunsAnswersAreNewMemory(t *testing.T) {
	r := rand.New(rand.NewSource(189))
	seen, told := 0, 0
	for range 5000 {
		x := newTableTry(r)
		one, other := x.ask(), x.ask()
		given := []any{x.q, x.list, x.inputs, x.times}
		mustBeNew(t, "Rows", one.rows, append(given, other.rows, one.out, one.latest)...)
		mustBeNew(t, "RunTable", one.out, append(given, other.out, one.windows)...)
		mustBeNew(t, "Windows", one.windows, append(given, other.windows)...)
		mustBeNew(t, "LatestAt", one.latest, append(given, other.latest)...)
		was := x.whole()
		one.overwrite()
		if !reflect.DeepEqual(x.whole(), was) {
			t.Fatalf("an answer shares memory: %+v, now %+v", was, x.whole())
		}
		if last := x.ask(); !sameAnswer(last, other) {
			t.Fatalf("%+v, and before that %+v", last, other)
		}
		if len(other.rows) > 0 {
			seen++
		}
		if len(other.out) > 1 {
			told++
		}
	}
	if seen < 1000 || told < 500 {
		t.Error("the queries to try are too much alike:", seen, told)
	}
}

// What is done to an argument behind an answer is not to be seen in the answer: nothing works on any more.
func TestTableRunsAnswersAreDone(t *testing.T) {
	list := sourcesIn("s a b", "t a c", "u! a d")
	for _, text := range []string{"from s get b as x", "from s join t within 5 on a get b as x", "from s lookup u on a get b as x", "from s join t within 5 on a group a tumble 5 get count as n"} {
		for range 50 {
			inputs := crossing([2]int{50, 60})
			inputs = append(inputs, came("1:0,7"))
			want, _ := rowsAsTold(asked(text), list, inputs)
			rows, ok := impl.Rows(asked(text), list, inputs)
			out, told := impl.RunTable(asked(text), list, inputs)
			tellAs, _ := runTableAsTold(asked(text), list, inputs)
			for _, arrivals := range inputs {
				for i := range arrivals {
					overwriteNumbers([][]int{arrivals[i].Row})
					arrivals[i] = arrivalBehind
				}
			}
			if !ok || !told || !sameArrivals(rows, want) || !sameRows(out, tellAs) {
				t.Fatal("an answer has changed:", text)
			}
		}
	}
}

// The answers are the same at each run, whatever else runs, and on however many processors.
func TestTableRunsAnswerTheSameAtEachRun(t *testing.T) {
	defer runtime.GOMAXPROCS(runtime.GOMAXPROCS(0))
	r := rand.New(rand.NewSource(190))
	tries, want := []tableTry{}, []tableAnswer{}
	for range 200 {
		x := newTableTry(r)
		tries, want = append(tries, x), append(want, x.ask())
	}
	wide := tableTry{q: asked("from s join t within 1 on a group a,b hop 4 2 get count as n, sum c as m"), list: sourcesIn("s a b", "t a c")}
	for _, products := range [][][2]int{{{50, 60}}, {{50, 60}, {1, 1}}, {{30, 30}, {20, 20}, {1, 5}}, {{150, 150}}} {
		wide.inputs = crossing(products...)
		tries, want = append(tries, wide), append(want, wide.ask())
	}
	for _, processors := range []int{1, 2, 8} {
		runtime.GOMAXPROCS(processors)
		group := sync.WaitGroup{}
		for range 4 {
			group.Go(func() {
				for i, x := range tries {
					if got := x.ask(); !sameAnswer(got, want[i]) {
						t.Errorf("%+v: %+v, and before that %+v", x.bare(), got, want[i])
					}
				}
			})
		}
		group.Wait()
	}
}

// No goroutine waits for ever, nor when there are more rows than may be.
func TestTableRunsLeaveNoGoroutines(t *testing.T) {
	before := runtime.NumGoroutine()
	list := sourcesIn("s a b", "t a c")
	for range 100 {
		for _, inputs := range [][][]impl.Arrival{nil, crossing([2]int{2, 3}), crossing([2]int{50, 61}), crossing([2]int{150, 150})} {
			impl.Rows(asked("from s join t within 1 on a get b as x"), list, inputs)
			impl.RunTable(asked("from s join t within 1 on a where 0 get b as x"), list, inputs)
			impl.RunTable(impl.Query{}, list, inputs)
		}
	}
	for range 200 {
		if runtime.NumGoroutine() <= before {
			return
		}
		time.Sleep(5 * time.Millisecond)
	}
	t.Error("goroutines are left:", before, runtime.NumGoroutine())
}

// The longest that may come: the most rows of one group, each in as many windows as there can be.
func TestTableRunsOfTheMost(t *testing.T) {
	list := sourcesIn("s a b", "t a c")
	inputs := crossing([2]int{50, 60})
	for i := range inputs[0] {
		inputs[0][i].Time, inputs[0][i].Row[1] = 1000*i+19, i
	}
	for i := range inputs[1] {
		inputs[1][i].Time, inputs[1][i].Row[1] = 1000*i+519, -i
	}
	q := asked("from s join t within 1000000000000 on a group a hop 20 1 get count as c0, sum (b * c) as c1, least (b - c) as c2, most (b % c) as c3, sum b as c4, sum c as c5, least c as c6, most b as c7")
	want, ok := runTableAsTold(q, list, inputs)
	if !ok || len(want) != 20*(49+60) {
		t.Error("what is to come out:", len(want), ok)
	}
	mustComeOut(t, "the most", q, list, inputs, want)
}

// Nothing stays from what was refused, or from what was done.
func TestTableRunsKeepNothing(t *testing.T) {
	list := sourcesIn("s a b", "t a c")
	for range 3 {
		mustSeeNoRows(t, "too many rows", asked("from s join t within 1 on a get b as x"), list, crossing([2]int{50, 61}))
		mustRunTable(t, "from s join t within 1 on a group a get count as n, sum c as m", list, crossing([2]int{3, 2}, [2]int{0, 4}, [2]int{1, 1}), "0,6,12 2,1,2")
		mustSeeNoRows(t, "no inputs", asked("from s get b as x"), list, nil)
		mustRunTable(t, "from s get b as x", list, [][]impl.Arrival{came("3:1,10 4:1,7"), nil}, "7 10")
		mustHaveNoWindows(t, "a time that is none", windowing("tumble 5"), []int{3, -1})
		mustWindow(t, "tumble 5", "3", "0-5")
		mustFind(t, "3:1,10!", 1, 3, "")
		mustFind(t, "3:1,10", 1, 3, "1,10")
	}
}
