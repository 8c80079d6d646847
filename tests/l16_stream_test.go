package tests

import (
	"fmt"
	"math/rand"
	"slices"
	"strconv"
	"strings"
	"testing"

	"loop.example/g00035/impl"
)

func TestLimitsOfStreams(t *testing.T) {
	if impl.MaxComing != 400 {
		t.Error("a limit is another than the document's:", impl.MaxComing)
	}
}

// comes reads comings from words: a place and an arrival (see came) with `@` between, or a place and a mark with `>` between; the mark `end` says that nothing comes any more.
func comes(text string) []impl.Coming {
	list := []impl.Coming{}
	for _, word := range strings.Fields(text) {
		if source, arrival, ok := strings.Cut(word, "@"); ok {
			list = append(list, impl.Coming{Source: numbersIn(source)[0], Arrival: came(arrival)[0], Mark: -1})
			continue
		}
		source, mark, _ := strings.Cut(word, ">")
		mark = strings.ReplaceAll(mark, "end", "1000000000001")
		list = append(list, impl.Coming{Source: numbersIn(source)[0], Mark: numbersIn(mark)[0]})
	}
	return list
}

// outsIn reads what is told from words: the place of a coming, a colon, a row.
func outsIn(text string) []impl.Out {
	list := []impl.Out{}
	for _, word := range strings.Fields(text) {
		at, row, _ := strings.Cut(word, ":")
		list = append(list, impl.Out{At: numbersIn(at)[0], Row: numbersIn(row)})
	}
	return list
}

func sameOuts(a []impl.Out, b []impl.Out) bool {
	return slices.EqualFunc(a, b, func(x, y impl.Out) bool { return x.At == y.At && slices.Equal(x.Row, y.Row) })
}

func comingOkAsTold(list []impl.Source, c impl.Coming) bool {
	none := c.Arrival.Time == 0 && len(c.Arrival.Row) == 0 && !c.Arrival.Gone
	return inBounds(c.Source, 0, len(list)-1) && (c.Mark == -1 || inBounds(c.Mark, 0, 1000000000001) && none)
}

// A standing is what came and was not late, behind some comings.
type standing struct {
	arrivals [][]impl.Arrival
	marks    map[string]int
	late     int
}

func standingAsTold(list []impl.Source, coming []impl.Coming) standing {
	s := standing{arrivals: make([][]impl.Arrival, len(list)), marks: map[string]int{}}
	for _, c := range coming {
		name := list[c.Source].Name
		switch {
		case c.Mark >= 0:
			s.marks[name] = max(s.marks[name], c.Mark)
		case c.Arrival.Time < s.marks[name]:
			s.late++
		default:
			s.arrivals[c.Source] = append(s.arrivals[c.Source], c.Arrival)
		}
	}
	return s
}

// settledAsTold is all that is to be told when all stands so: it is what a table comes to, less what can change still.
func settledAsTold(q impl.Query, list []impl.Source, s standing) [][]int {
	arrivals := slices.Clone(s.arrivals)
	for i, source := range list {
		if q.Lookup != "" && source.Name == q.From {
			arrivals[i] = slices.DeleteFunc(slices.Clone(arrivals[i]), func(a impl.Arrival) bool { return a.Time >= s.marks[q.Lookup] })
		}
	}
	rows, _ := runTableAsTold(q, list, arrivals)
	least := s.marks[q.From]
	if q.Join+q.Lookup != "" {
		least = min(least, s.marks[q.Join+q.Lookup])
	}
	return slices.DeleteFunc(rows, func(row []int) bool {
		switch {
		case len(q.Groups) == 0:
			return false
		case q.Window == 0:
			return least < 1000000000001
		}
		return least < min(row[len(q.Groups)+1], 1000000000001)
	})
}

// stillUntold takes some rows away, each of which must be there.
func stillUntold(rows [][]int, taken [][]int) [][]int {
	rows = slices.Clone(rows)
	for _, row := range taken {
		at := slices.IndexFunc(rows, func(other []int) bool { return slices.Equal(row, other) })
		if at < 0 {
			panic(fmt.Sprint("what was told is not there any more: ", row))
		}
		rows = slices.Delete(rows, at, at+1)
	}
	return rows
}

// streamAsTold looks at all that came at each coming anew.
func streamAsTold(q impl.Query, list []impl.Source, coming []impl.Coming) ([]impl.Out, int, bool) {
	inputs := make([][]impl.Arrival, len(list))
	for _, c := range coming {
		if !comingOkAsTold(list, c) || len(coming) > 400 {
			return nil, 0, false
		}
		if c.Mark < 0 {
			inputs[c.Source] = append(inputs[c.Source], c.Arrival)
		}
	}
	if _, ok := rowsAsTold(q, list, inputs); !ok {
		return nil, 0, false
	}
	outs, told := []impl.Out{}, [][]int{}
	for at := range coming {
		all := settledAsTold(q, list, standingAsTold(list, coming[:at+1]))
		for _, row := range stillUntold(all, told) {
			outs = append(outs, impl.Out{At: at, Row: row})
		}
		told = all
	}
	return outs, standingAsTold(list, coming).late, true
}

func mustStreamAll(t *testing.T, name string, q impl.Query, list []impl.Source, coming []impl.Coming, want []impl.Out, late int) {
	t.Helper()
	if outs, n, ok := impl.RunStream(q, list, coming); !sameOuts(outs, want) || n != late || !ok {
		t.Errorf("%s: %+v of %+v: %v %d %v, not %v %d", name, q, coming, outs, n, ok, want, late)
	}
	if outs, n, ok := streamAsTold(q, list, coming); !sameOuts(outs, want) || n != late || !ok {
		t.Errorf("%s, as told: %v %d %v, not %v %d", name, outs, n, ok, want, late)
	}
}

// mustStream reads the query, what comes, and what is to be told.
func mustStream(t *testing.T, text string, list []impl.Source, coming string, want string, late int) {
	t.Helper()
	mustStreamAll(t, text+" of "+coming, asked(text), list, comes(coming), outsIn(want), late)
}

func TestStreamsOfNoComings(t *testing.T) {
	list := sourcesIn("s a b", "t a c", "u! a d")
	for _, text := range []string{"from s get b as x", "from s join t within 5 on a get b as x", "from s lookup u on a get b as x", "from s where 1 get 1 as x", "from s group a get count as n", "from s join t within 5 on a group c tumble 5 get count as n"} {
		mustStream(t, text, list, "", "", 0)
		mustStream(t, text, list, "0>0", "", 0)
		mustStream(t, text, list, "0>end 1>end 2>end", "", 0)
	}
}

func TestStreamsOfOneSource(t *testing.T) {
	list := sourcesIn("s a b", "t a c")
	mustStream(t, "from s get b as x", list, "0@5:1,10", "0:10", 0)
	mustStream(t, "from s get b as x, a as y", list, "0@5:1,10 0@3:2,7 0>1 0@4:1,10", "0:10,1 1:7,2 3:10,1", 0)
	mustStream(t, "from s get b as x", list, "1@5:1,10 0@5:2,20 1@6:1,30 1>7 0@5:2,20", "1:20 4:20", 0)
	mustStream(t, "from t get c as x", list, "1@5:1,10 0@5:2,20 1@6:1,30", "0:10 2:30", 0)
	mustStream(t, "from s get (a + b) as x", list, "0@0:1,1 0@1000000000000:2,2", "0:2 1:4", 0)
	// A mark changes nothing of what is told at once, but what is late is not told.
	mustStream(t, "from s get b as x", list, "0>4 0@4:1,1 0@3:1,2 0>9 0@8:1,3 0@9:1,4 0>end 0@1000000000000:1,5", "1:1 5:4", 3)
	mustStream(t, "from s get 7 as x", list, "0@3:1,1 0@3:1,1 1@3:1,1 0@3:1,1", "0:7 1:7 3:7", 0)
}

func TestStreamsWhere(t *testing.T) {
	list := sourcesIn("s a b", "t a c", "u! a d")
	mustStream(t, "from s where (b < 8) get b as x", list, "0@5:1,10 0@4:1,7 0@4:1,8 0@9:1,-3", "1:7 3:-3", 0)
	mustStream(t, "from s where 0 get b as x", list, "0@5:1,10 0@4:1,7 0>end", "", 0)
	mustStream(t, "from s where b get a as x", list, "0@5:1,0 0@4:2,7 0@4:3,-1", "1:2 2:3", 0)
	mustStream(t, "from s join t within 5 on a where (b < c) get b as x", list, "0@5:1,10 0@5:1,20 1@5:1,15 1@6:1,21 0@5:1,20", "2:10 3:10 3:20 4:20", 0)
	mustStream(t, "from s lookup u on a where (d = 4) get b as x", list, "0@5:1,10 0@6:2,20 2@3:1,4 2@3:2,5 2>9 0@7:1,30", "4:10 5:30", 0)
	mustStream(t, "from s where (b < 8) group a tumble 5 get count as n, sum b as m", list, "0@4:1,10 0@3:1,7 0@4:1,-1 0@4:2,8 0>5", "4:1,0,5,2,6", 0)
}

func TestStreamsOfAJoin(t *testing.T) {
	list, text := sourcesIn("s a b", "t a c"), "from s join t within 2 on a get b as x, c as y"
	mustStream(t, text, list, "0@5:1,10 1@6:1,7", "1:10,7", 0)
	mustStream(t, text, list, "1@6:1,7 0@5:1,10", "1:10,7", 0)
	mustStream(t, text, list, "1@3:1,7 0@5:1,10 1@7:1,8 1@8:1,9 1@2:1,6", "1:10,7 2:10,8", 0)
	mustStream(t, text, list, "0@5:1,10 1@6:2,7 0@6:2,11", "2:11,7", 0)
	// One coming makes as many rows as it meets arrivals, and they stand ascending.
	mustStream(t, text, list, "0@5:1,30 0@6:1,10 0@4:1,20 0@5:1,10 1@5:1,7", "4:10,7 4:10,7 4:20,7 4:30,7", 0)
	mustStream(t, text, list, "1@5:1,9 1@6:1,7 1@4:1,8 1@5:2,1 1@9:1,3 0@5:1,10 0@7:1,2", "5:10,7 5:10,8 5:10,9 6:2,3 6:2,7 6:2,9", 0)
	mustStream(t, text, list, "0@5:1,10 1@5:1,7 0@5:1,10 1@5:1,7", "1:10,7 2:10,7 3:10,7 3:10,7", 0)
	// What is late meets nothing, neither what came ahead nor what comes behind it.
	mustStream(t, text, list, "0@5:1,10 1>6 1@5:1,7 1@6:1,8 0@4:1,20", "3:10,8 4:20,8", 1)
	mustStream(t, text, list, "0>6 0@5:1,10 1@5:1,7 0@6:1,20", "3:20,7", 1)
	mustStream(t, text, list, "1@5:1,7 1>end 0>5 0@4:1,10 0@5:1,20 1@5:1,8 0@7:1,30", "4:20,7 6:30,7", 2)
	// The query may stand the other way round, and no mark is waited for.
	mustStream(t, "from t join s within 2 on a get c as x, b as y", list, "0@5:1,10 1@6:1,7 1@5:1,6 0@5:1,11", "1:7,10 2:6,10 3:6,11 3:7,11", 0)
	mustStream(t, "from s join t within 0 on a get b as x", list, "0@0:1,10 1@1000000000000:1,7 0@1000000000000:1,11 1@0:1,6", "2:11 3:10", 0)
	mustStream(t, "from s join t within 1000000000000 on a get b as x", list, "0@0:1,10 1@1000000000000:1,7 0@1000000000000:1,11 1@0:1,6", "1:10 2:11 3:10 3:11", 0)
}

// A source whose only column is On may be joined with itself: an arrival meets itself at once, and all that came ahead of it both ways.
func TestStreamsOfASourceJoinedWithItself(t *testing.T) {
	list := sourcesIn("s a", "t a")
	mustStream(t, "from s join s within 2 on a get a as x", list, "0@5:1 0@6:1 0@9:1 0@7:1 0@7:2", "0:1 1:1 1:1 1:1 2:1 3:1 3:1 3:1 3:1 3:1 3:1 3:1 4:2", 0)
	mustStream(t, "from s join s within 0 on a get a as x", list, "0@5:1 0@6:1 1@5:1 0@5:1 0>7 0@6:1", "0:1 1:1 3:1 3:1 3:1", 1)
	mustStream(t, "from s join s within 2 on a group a tumble 10 get count as n", list, "0@5:1 0@6:1 1>end 0>9 0>10 0@12:1 0>20", "4:1,0,10,4 6:1,10,20,1", 0)
}

func TestStreamsOfALookup(t *testing.T) {
	list, text := sourcesIn("s a b", "u! a d"), "from s lookup u on a get b as x, d as y"
	mustStream(t, text, list, "0@5:1,10 1@2:1,40 1>5 1@5:1,41 1>6 1@9:1,42", "4:10,41", 0)
	mustStream(t, text, list, "1@2:1,40 1>4 0@3:1,10 0@4:1,20 1>5", "2:10,40 4:20,40", 0)
	mustStream(t, text, list, "1@2:1,40 0@3:1,10 0>end", "", 0)
	mustStream(t, text, list, "0@5:1,10 1>end", "", 0)
	mustStream(t, text, list, "0@0:1,10 1@0:1,40 1>0 1>1", "3:10,40", 0)
	mustStream(t, text, list, "0@1000000000000:1,10 1@1000000000000:1,40 1>1000000000000 1>end", "3:10,40", 0)
	// One mark makes as many rows as waited for it, ascending, each once.
	mustStream(t, text, list, "0@5:1,30 0@3:2,10 0@4:1,20 0@6:1,5 0@3:1,20 1@0:1,7 1@1:2,8 1>6 1>7 1>8", "7:10,8 7:20,7 7:20,7 7:30,7 8:5,7", 0)
	// What the table says behind an arrival's Time does not count for it, nor does what comes behind it there.
	mustStream(t, text, list, "0@5:1,10 1@6:1,41 1@2:1,40 1@5:2,8 1>9 1@9:1,42 0@8:1,20 0@9:1,30 1>10", "4:10,40 6:20,41 8:30,42", 0)
	// The last one of the greatest Time counts, and what is Gone has no row.
	mustStream(t, text, list, "0@5:1,10 1@4:1,41 1@4:1,40 1@3:1,39 1>9", "4:10,40", 0)
	mustStream(t, text, list, "0@5:1,10 0@3:1,20 0@7:1,30 1@4:1,41! 1@2:1,40 1@6:1,42 1>9", "6:20,40 6:30,42", 0)
	mustStream(t, text, list, "1@2:1,40 1@2:1,0! 0@3:1,10 1>9 1@9:1,5 0@9:1,20 1>end", "6:20,5", 0)
	// What is late of either counts for nothing.
	mustStream(t, text, list, "1@2:1,40 1>3 1@2:1,41 0@2:1,10 1@3:1,43 0@3:1,20 1>4", "3:10,40 6:20,43", 1)
	mustStream(t, text, list, "1@2:1,40 1>3 1@1:1,0! 1@2:1,0! 0>2 0@1:1,10 0@2:1,20", "6:20,40", 3)
}

// What the marks of sources say that the query does not name is nothing to it.
func TestStreamsOfSourcesThatAreNotNamed(t *testing.T) {
	list := sourcesIn("v a b", "s a b", "t a c", "u! a d", "w! a d")
	mustStream(t, "from s get b as x", list, "0@5:1,10 1@5:1,7 2@5:1,1 3@5:1,1 4@5:1,1! 0>9 1@4:1,6", "1:7 6:6", 0)
	mustStream(t, "from s join t within 2 on a get b as x", list, "0@5:1,10 1@5:1,7 3@5:1,1 0>end 3>9 2@5:1,1 0@7:1,3 3@8:1,3", "5:7", 2)
	mustStream(t, "from s lookup u on a get b as x, d as y", list, "1@5:1,7 4@3:1,2 4>end 0>end 3@3:1,3 2>9 3>6 4@5:1,1", "6:7,3", 1)
	mustStream(t, "from s group a tumble 5 get count as n", list, "1@4:1,7 0@4:1,8 2@4:1,8 0>5 2>5 3>5 4>5 0>end 1>5 0@4:1,1", "8:1,0,5,1", 1)
}

func TestStreamsCountWhatIsLate(t *testing.T) {
	list := sourcesIn("s a", "t a", "u! a")
	for _, x := range []struct {
		coming string
		want   string
		late   int
	}{
		{"0>5 0@5:1", "1:1", 0}, {"0>5 0@4:1", "", 1}, {"0>5 0@6:1", "1:1", 0}, {"0@4:1 0>5", "0:1", 0},
		{"0>0 0@0:1", "1:1", 0}, {"0>1 0@0:1", "", 1}, {"0>1000000000000 0@1000000000000:1", "1:1", 0}, {"0>end 0@1000000000000:1", "", 1},
		// A mark below the one that stands does nothing, one alike neither.
		{"0>5 0>3 0@3:1 0@4:2 0@5:3", "4:3", 2}, {"0>5 0>5 0@4:1 0@5:2", "3:2", 1}, {"0>5 0>6 0@5:1 0@6:2", "3:2", 1}, {"0>end 0>0 0@9:1", "", 1}, {"0>5 0>3 0>4 0@4:1", "", 1},
		// Each source has its own; also what the query does not name is late.
		{"1>5 0@4:1 1@4:1 1@5:1", "1:1", 1}, {"2>5 2@4:1 2@4:1! 2@5:1 0@1:1", "4:1", 2}, {"0>5 1>3 2>4 0@4:1 1@4:1 2@4:1 1@2:1 2@3:1 0@5:7", "8:7", 3},
		{"0>9 0@1:1 0@2:1 0@8:1 0@3:1 0@0:1 0@1:1", "", 6},
	} {
		mustStream(t, "from s get a as x", list, x.coming, x.want, x.late)
	}
}

// A random coming's Time goes with the marks, so that some are late and some are not.
func randomComings(r *rand.Rand, list []impl.Source, count int) []impl.Coming {
	coming, now := []impl.Coming{}, 0
	span := pick(r, 3, 20, 60, 300, 3000, impl.MaxTime/20)
	for range count {
		c := impl.Coming{Source: r.Intn(len(list)), Mark: -1}
		now = min(impl.MaxTime, now+r.Intn(span/3+1))
		if r.Intn(3) == 0 {
			c.Mark = max(0, now-r.Intn(span))
			coming = append(coming, c)
			continue
		}
		c.Arrival = impl.Arrival{Time: min(impl.MaxTime, max(0, now+r.Intn(span)-span/2)), Gone: list[c.Source].Table && r.Intn(4) == 0}
		for range list[c.Source].Cols {
			c.Arrival.Row = append(c.Arrival.Row, pick(r, 1, 1, 1, 2, 2, -1, 0, randomNumber(r)))
		}
		coming = append(coming, c)
	}
	if r.Intn(3) > 0 {
		for _, place := range r.Perm(len(list)) {
			coming = append(coming, impl.Coming{Source: place, Mark: impl.MaxTime + 1})
		}
	}
	return coming
}

func spoilComings(r *rand.Rand, coming []impl.Coming) []impl.Coming {
	if len(coming) == 0 {
		return comes("0>1 77>1")
	}
	c := &coming[r.Intn(len(coming))]
	switch r.Intn(5) {
	case 0:
		c.Source = pick(r, -1, 0, 10, c.Source+1)
	case 1:
		c.Mark = pick(r, -2, -1, 0, impl.MaxTime+1, impl.MaxTime+2)
	case 2:
		c.Arrival.Gone = true
	case 3:
		c.Arrival.Row = append(c.Arrival.Row, 1)
	default:
		c.Arrival.Time = pick(r, -1, 0, 1, impl.MaxTime, impl.MaxTime+1)
	}
	return coming
}

// streamToTry is a query, its sources, and what comes; most of them are right.
func streamToTry(r *rand.Rand) (impl.Query, []impl.Source, []impl.Coming) {
	q, list, _ := tableToTry(r)
	for outsideAsTold(q, list) == nil && r.Intn(5) > 0 {
		q, list, _ = tableToTry(r)
	}
	if r.Intn(4) > 0 {
		list = slices.DeleteFunc(list, func(s impl.Source) bool { return s.Name != q.From && s.Name != q.Join && s.Name != q.Lookup })
	}
	if len(list) == 0 {
		return q, list, nil
	}
	if q.Join != "" && r.Intn(3) > 0 {
		q.Within = pick(r, 5, 60, 1000, impl.MaxTime)
	}
	coming := randomComings(r, list, pick(r, 0, 3, 10, 20, 40))
	if r.Intn(20) == 0 {
		coming = spoilComings(r, coming)
	}
	return q, list, coming
}

func TestStreamsAreAsTold(t *testing.T) {
	r := rand.New(rand.NewSource(191))
	seen := map[string]int{}
	for range 6000 {
		q, list, coming := streamToTry(r)
		want, late, ok := streamAsTold(q, list, coming)
		if !ok {
			mustStreamNothing(t, "at random", q, list, coming)
			seen["nothing"]++
			continue
		}
		if outs, n, ok := impl.RunStream(q, list, coming); !sameOuts(outs, want) || n != late || !ok {
			t.Fatalf("%+v %+v of %+v: %v %d %v, not %v %d", q, list, coming, outs, n, ok, want, late)
		}
		if len(want) > 1 {
			seen["join "+strconv.FormatBool(q.Join != "")+", lookup "+strconv.FormatBool(q.Lookup != "")+", grouped "+strconv.FormatBool(len(q.Groups) > 0)]++
			seen[fmt.Sprint("window ", q.Window)]++
		}
		if late > 0 && len(want) > 1 {
			seen["late"]++
		}
	}
	for _, join := range []string{"join false, lookup false", "join true, lookup false", "join false, lookup true"} {
		for _, grouped := range []string{", grouped false", ", grouped true"} {
			if seen[join+grouped] < 40 {
				t.Error("the queries are too much alike:", join, grouped, seen)
			}
		}
	}
	for _, kind := range []string{"nothing", "late", "window 0", "window 1", "window 2", "window 3"} {
		if seen[kind] < 50 {
			t.Error("the queries are too much alike:", kind, seen)
		}
	}
}
