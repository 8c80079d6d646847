package tests

import (
	"math/rand"
	"reflect"
	"slices"
	"testing"

	"loop.example/g00035/impl"
)

var (
	stepBehind   = impl.Step{Op: -7, Num: -7, Name: "behind"}
	getBehind    = impl.Get{Kind: -7, As: "behind"}
	sourceBehind = impl.Source{Name: "behind", Table: true}
)

// roomyQuery is a copy of a query all of whose lists have spare room behind them, filled with what must stay.
func roomyQuery(q impl.Query) impl.Query {
	q = plainQuery(q)
	for i, g := range q.Gets {
		q.Gets[i].Steps = withRoom(g.Steps, stepBehind)
	}
	q.Where, q.Groups, q.Gets = withRoom(q.Where, stepBehind), withRoom(q.Groups, "behind"), withRoom(q.Gets, getBehind)
	return q
}

// wholeQuery tells a query with all that stands in the room behind its lists.
func wholeQuery(q impl.Query) impl.Query {
	q.Where, q.Groups, q.Gets = withAllRoom(q.Where), withAllRoom(q.Groups), withAllRoom(q.Gets)
	for i, g := range q.Gets {
		q.Gets[i].Steps = withAllRoom(g.Steps)
	}
	return q
}

func plainSources(list []impl.Source) []impl.Source {
	list = append([]impl.Source(nil), list...)
	for i, s := range list {
		list[i].Cols = append([]string(nil), s.Cols...)
	}
	return list
}

func roomySources(list []impl.Source) []impl.Source {
	list = plainSources(list)
	for i, s := range list {
		list[i].Cols = withRoom(s.Cols, "behind")
	}
	return withRoom(list, sourceBehind)
}

func wholeSources(list []impl.Source) []impl.Source {
	list = withAllRoom(list)
	for i, s := range list {
		list[i].Cols = withAllRoom(s.Cols)
	}
	return list
}

// queriesToTry are a query, sources, and what its first Get may be reckoned of; some are not right.
func queriesToTry(r *rand.Rand) (impl.Query, []impl.Source, []string, []int) {
	q := randomQuery(r)
	list := randomSources(r, q)
	q = fewCols(r, q, list)
	if r.Intn(8) == 0 {
		q, list = spoilQuery(r, q), spoilSources(r, list)
	}
	cols, row := randomRowFor(r, q.Gets[0].Steps)
	return roomyQuery(q), roomySources(list), withRoom(cols, "behind"), withRoom(row, -7)
}

func TestQueriesLeaveArgumentsAlone(t *testing.T) {
	r := rand.New(rand.NewSource(176))
	for range 5000 {
		q, list, cols, row := queriesToTry(r)
		asQ, asList, asCols, asRow := wholeQuery(q), wholeSources(list), withAllRoom(cols), withAllRoom(row)
		impl.QueryOk(q)
		impl.ShowQuery(q)
		impl.SourcesOk(list)
		impl.Inside(q, list)
		impl.Outside(q, list)
		impl.Reckon(q.Gets[0].Steps, cols, row)
		impl.Reckon(q.Where, cols, row)
		if !reflect.DeepEqual(wholeQuery(q), asQ) || !reflect.DeepEqual(wholeSources(list), asList) || !slices.Equal(withAllRoom(cols), asCols) || !slices.Equal(withAllRoom(row), asRow) {
			t.Fatalf("an argument was changed: %+v %+v %v %v", asQ, asList, asCols, asRow)
		}
	}
}

// What lies behind a list's length is not looked at.
func TestQueriesLookNotBehindTheLength(t *testing.T) {
	r := rand.New(rand.NewSource(177))
	for range 5000 {
		q, list, cols, row := queriesToTry(r)
		bareQ, bareList := plainQuery(q), plainSources(list)
		if impl.QueryOk(q) != impl.QueryOk(bareQ) || impl.ShowQuery(q) != impl.ShowQuery(bareQ) || impl.SourcesOk(list) != impl.SourcesOk(bareList) {
			t.Fatalf("another answer with room: %+v %+v", bareQ, bareList)
		}
		if !slices.Equal(impl.Inside(q, list), impl.Inside(bareQ, bareList)) || !slices.Equal(impl.Outside(q, list), impl.Outside(bareQ, bareList)) {
			t.Fatalf("other columns with room: %+v %+v", bareQ, bareList)
		}
		n, ok := impl.Reckon(q.Gets[0].Steps, cols, row)
		if want, same := impl.Reckon(bareQ.Gets[0].Steps, slices.Clip(cols), slices.Clip(row)); n != want || ok != same {
			t.Fatalf("with room: %d, %v, without: %d, %v", n, ok, want, same)
		}
	}
}

func overwriteSteps(steps []impl.Step) {
	for i := range steps {
		steps[i] = stepBehind
	}
	_ = append(steps, stepBehind)
}

func overwriteQuery(q impl.Query) {
	overwriteSteps(q.Where)
	for i, g := range q.Gets {
		overwriteSteps(g.Steps)
		q.Gets[i] = getBehind
	}
	_ = append(q.Gets, getBehind)
	for i := range q.Groups {
		q.Groups[i] = "behind"
	}
	_ = append(q.Groups, "behind")
}

func TestQueriesAnswersAreNewMemory(t *testing.T) {
	r := rand.New(rand.NewSource(178))
	seen, read := 0, 0
	for range 5000 {
		q, list, _, _ := queriesToTry(r)
		in, out := impl.Inside(q, list), impl.Outside(q, list)
		mustBeNew(t, "Inside", in, q, list)
		mustBeNew(t, "Outside", out, q, list, in)
		wantIn, wantOut := slices.Clone(in), slices.Clone(out)
		for _, cols := range [][]string{in, out} {
			for i := range cols {
				cols[i] = "behind"
			}
			_ = append(cols, "behind")
		}
		if !slices.Equal(impl.Inside(q, list), wantIn) || !slices.Equal(impl.Outside(q, list), wantOut) {
			t.Fatalf("other columns, and before that %v %v", wantIn, wantOut)
		}
		if len(wantOut) > 0 {
			seen++
		}
		text := impl.ShowQuery(q)
		if text == "" {
			continue
		}
		read++
		one, _ := impl.ParseQuery(text)
		other, _ := impl.ParseQuery(text)
		mustBeNew(t, "ParseQuery", one, other, q)
		overwriteQuery(one)
		if last, ok := impl.ParseQuery(text); !ok || !sameQuery(last, q) || !sameQuery(other, q) {
			t.Fatalf("%q: %+v, and before that %+v", text, last, other)
		}
	}
	if seen < 1000 || read < 1000 {
		t.Error("the queries to try are too much alike:", seen, read)
	}
}

// What is done to a source behind an answer is not to be seen in the answer, nor the other way round.
func TestColumnsAreNotTheSources(t *testing.T) {
	list := sourcesIn("s a b", "t a c")
	q := asked("from s join t within 5 on a group b,a get count as n")
	alone := impl.Inside(asked("from s get a as x"), list)
	in, out := impl.Inside(q, list), impl.Outside(q, list)
	list[0].Cols[1], list[1].Cols[1], q.Groups[0] = "z", "z", "z"
	if !slices.Equal(alone, []string{"a", "b"}) || !slices.Equal(in, []string{"a", "b", "c"}) || !slices.Equal(out, []string{"b", "a", "n"}) {
		t.Error("an answer has changed:", alone, in, out)
	}
	in[0], out[0], alone[0] = "y", "y", "y"
	if list[0].Cols[0] != "a" || list[1].Cols[0] != "a" || q.Groups[0] != "z" {
		t.Error("an argument has changed:", list, q)
	}
}

// Nothing stays from what was refused, or from what was done.
func TestQueriesKeepNothing(t *testing.T) {
	list := sourcesIn("s a b", "t a c")
	for range 3 {
		mustNotParseQuery(t, "no query", "from s join t within 5 on a where b get a as")
		mustParseQuery(t, "a query", "from s get a as x")
		mustBeNoQuery(t, "the zero value", impl.Query{})
		mustShowQuery(t, "all parts", richest(), showQueryAsTold(richest()))
		mustHaveNoCols(t, "no such column", asked("from s get c as x"), list)
		mustHaveCols(t, "a Join", asked("from s join t within 5 on a get c as x"), list, "a b c", "x")
		mustNotReckon(t, "a number beyond", stepsIn("a"), []string{"a"}, []int{mostNumber + 1})
		mustReckon(t, stepsIn("a b -"), []string{"a", "b"}, []int{1, 2}, -1)
		mustNotReckon(t, "too little", stepsIn("a -"), []string{"a"}, []int{1})
	}
}
