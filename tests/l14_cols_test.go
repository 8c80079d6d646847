package tests

import (
	"fmt"
	"math/rand"
	"slices"
	"strings"
	"testing"

	"loop.example/g00035/impl"
)

func sourcesOkAsTold(list []impl.Source) bool {
	times := map[string]int{}
	ok := len(list) <= 10
	for _, s := range list {
		times[s.Name]++
		ok = ok && times[s.Name] == 1 && nameForm.MatchString(s.Name) && len(s.Cols) > 0 && colsOkAsTold(s.Cols)
	}
	return ok
}

// sourceAsTold finds the one of that name, which is or is not a table.
func sourceAsTold(list []impl.Source, name string, table bool) []string {
	for _, s := range list {
		if s.Name == name && s.Table == table {
			return s.Cols
		}
	}
	return nil
}

func insideAsTold(q impl.Query, list []impl.Source) []string {
	if !queryOkAsTold(q) || !sourcesOkAsTold(list) {
		return nil
	}
	cols := slices.Clone(sourceAsTold(list, q.From, false))
	other := append(sourceAsTold(list, q.Join, false), sourceAsTold(list, q.Lookup, true)...)
	if len(cols) == 0 || q.Join+q.Lookup != "" && !(slices.Contains(cols, q.On) && slices.Contains(other, q.On)) || q.Lookup != "" && other[0] != q.On {
		return nil
	}
	for _, col := range other {
		if q.Join+q.Lookup == "" || col == q.On {
			continue
		}
		if slices.Contains(cols, col) {
			return nil
		}
		cols = append(cols, col)
	}
	steps := slices.Clone(q.Where)
	for _, g := range q.Gets {
		steps = append(steps, g.Steps...)
	}
	for _, s := range steps {
		if s.Op == 2 && !slices.Contains(cols, s.Name) {
			return nil
		}
	}
	for _, col := range q.Groups {
		if !slices.Contains(cols, col) {
			return nil
		}
	}
	if len(cols) > 12 {
		return nil
	}
	return cols
}

func outsideAsTold(q impl.Query, list []impl.Source) []string {
	if insideAsTold(q, list) == nil {
		return nil
	}
	cols := slices.Clone(q.Groups)
	if q.Window > 0 {
		cols = append(cols, "start", "end")
	}
	for _, g := range q.Gets {
		cols = append(cols, g.As)
	}
	if sorted := slices.Sorted(slices.Values(cols)); len(slices.Compact(sorted)) < len(cols) {
		return nil
	}
	return cols
}

// sourcesIn reads sources as words; a table has a `!` behind its name.
func sourcesIn(lines ...string) []impl.Source {
	list := []impl.Source{}
	for _, line := range lines {
		name, cols, _ := strings.Cut(line, " ")
		name, table := strings.CutSuffix(name, "!")
		list = append(list, impl.Source{Name: name, Table: table, Cols: strings.Fields(cols)})
	}
	return list
}

// asked reads a query that is one.
func asked(text string) impl.Query {
	q, ok := parseQueryAsTold(text)
	if !ok {
		panic("no query: " + text)
	}
	return q
}

func mustHaveCols(t *testing.T, name string, q impl.Query, list []impl.Source, in string, out string) {
	t.Helper()
	if got := impl.Inside(q, list); !slices.Equal(got, strings.Fields(in)) {
		t.Errorf("%s: inside %v, not %s: %+v", name, got, in, q)
	}
	if got := impl.Outside(q, list); !slices.Equal(got, strings.Fields(out)) {
		t.Errorf("%s: outside %v, not %s: %+v", name, got, out, q)
	}
	if told := insideAsTold(q, list); !slices.Equal(told, strings.Fields(in)) {
		t.Errorf("%s, as told: inside %v", name, told)
	}
	if told := outsideAsTold(q, list); !slices.Equal(told, strings.Fields(out)) {
		t.Errorf("%s, as told: outside %v", name, told)
	}
}

func mustHaveNoCols(t *testing.T, name string, q impl.Query, list []impl.Source) {
	t.Helper()
	mustHaveCols(t, name, q, list, "", "")
}

func mustBeSources(t *testing.T, name string, list []impl.Source, want bool) {
	t.Helper()
	if impl.SourcesOk(list) != want {
		t.Errorf("%s: not %v: %+v", name, want, list)
	}
	if sourcesOkAsTold(list) != want {
		t.Errorf("%s, as told: not %v", name, want)
	}
	if !want {
		mustHaveNoCols(t, name, asked("from s get 1 as x"), list)
		mustHaveNoCols(t, name, asked("from s get 1 as x"), append(sourcesIn("s a"), list...))
		mustHaveNoCols(t, name, asked("from s get 1 as x"), append(slices.Clone(list), sourcesIn("s a")...))
	}
}

// manySources are so many, the first one of the name s.
func manySources(count int) []impl.Source {
	list := []impl.Source{}
	for i := range count {
		list = append(list, impl.Source{Name: []string{"s", fmt.Sprint("s", i)}[min(i, 1)], Table: i%2 == 1, Cols: []string{"a"}})
	}
	return list
}

func TestSourcesOk(t *testing.T) {
	mustBeSources(t, "none", nil, true)
	mustBeSources(t, "none", []impl.Source{}, true)
	mustBeSources(t, "one", sourcesIn("s a"), true)
	mustBeSources(t, "in any order", sourcesIn("z a", "s! b a", "a c"), true)
	mustBeSources(t, "the same columns", sourcesIn("s a b", "t a b", "u! a b"), true)
	mustBeSources(t, "words", sourcesIn("from get where", "count! as"), true)
	for count := range 14 {
		mustBeSources(t, fmt.Sprint("sources ", count), manySources(count), count <= 10)
	}
	mustHaveCols(t, "the most", asked("from s get a as x"), manySources(10), "a", "x")
	for i := range 10 {
		for j := range i {
			list := manySources(10)
			list[i].Name = list[j].Name
			mustBeSources(t, fmt.Sprint("one twice ", i, " ", j), list, false)
		}
	}
	mustBeSources(t, "a stream and a table of one name", sourcesIn("s a", "s! a"), false)
	for _, name := range noNames {
		mustBeSources(t, fmt.Sprintf("a source %q", name), []impl.Source{{Name: name, Cols: []string{"a"}}}, false)
		mustBeSources(t, fmt.Sprintf("a source %q behind", name), append(sourcesIn("t a"), impl.Source{Name: name, Cols: []string{"a"}}), false)
		mustBeSources(t, fmt.Sprintf("a column %q", name), []impl.Source{{Name: "t", Cols: []string{name}}}, false)
		mustBeSources(t, fmt.Sprintf("a column %q behind", name), []impl.Source{{Name: "t", Cols: []string{"a", name}}}, false)
	}
	for count := range 15 {
		for _, table := range []bool{false, true} {
			list := []impl.Source{{Name: "t", Table: table, Cols: colNames(count)}}
			mustBeSources(t, fmt.Sprint("columns ", count), list, inBounds(count, 1, 12))
			for at := 1; at < min(count, 12); at++ {
				list[0].Cols = colNames(count)
				list[0].Cols[at] = "c0"
				mustBeSources(t, fmt.Sprint("a column twice ", count, " ", at), list, false)
			}
		}
	}
	long := strings.Repeat("z", 20)
	mustBeSources(t, "long names", sourcesIn(long+" "+long), true)
	mustBeSources(t, "a name that is too long", sourcesIn("s a", long+"z a"), false)
}

func TestInsideOfOneSource(t *testing.T) {
	list := sourcesIn("s a b c", "t! a d", "u e")
	mustHaveCols(t, "all columns", asked("from s get a as x"), list, "a b c", "x")
	mustHaveCols(t, "none is named", asked("from s get 1 as x"), list, "a b c", "x")
	mustHaveCols(t, "the last source", asked("from u get e as x, 2 as y"), list, "e", "x y")
	mustHaveCols(t, "in their order", asked("from s where (c < b) get b as x, a as b"), list, "a b c", "x b")
	mustHaveCols(t, "Groups", asked("from s group c,a get count as n"), list, "a b c", "c a n")
	mustHaveCols(t, "the most columns", asked("from s get c11 as x"), []impl.Source{{Name: "s", Cols: colNames(12)}}, strings.Join(colNames(12), " "), "x")
	mustHaveNoCols(t, "no such source", asked("from v get a as x"), list)
	mustHaveNoCols(t, "no source at all", asked("from s get 1 as x"), nil)
	mustHaveNoCols(t, "a table", asked("from t get a as x"), list)
	mustHaveNoCols(t, "another letter", asked("from S get a as x"), list)
	for _, text := range []string{"from s get d as x", "from s get (a + d) as x", "from s get a as x, (not d) as y", "from s where d get a as x", "from s where ((a < b) or (c = d)) get a as x", "from s group d get count as n", "from s group a,d get count as n", "from s group a get sum d as n", "from s group a get count as n, most (a - d) as m", "from s group a get least e as n", "from s where x get a as x", "from s group start tumble 5 get count as n", "from s get A as x", "from s get s as x"} {
		mustHaveNoCols(t, text, asked(text), list)
	}
	mustHaveCols(t, "the same with d there", asked("from s where ((a < b) or (c = d)) group d get least (a - d) as m"), sourcesIn("s a b c d"), "a b c d", "d m")
}

func TestInsideOfAJoin(t *testing.T) {
	list := sourcesIn("s a b c", "t d b e", "u! b f", "v b a", "k b", "w! f b")
	mustHaveCols(t, "a Join", asked("from s join t within 5 on b get e as x"), list, "a b c d e", "x")
	mustHaveCols(t, "the other way round", asked("from t join s within 5 on b get e as x"), list, "d b e a c", "x")
	mustHaveCols(t, "with On alone", asked("from s join k within 0 on b get 1 as x"), list, "a b c", "x")
	mustHaveCols(t, "to On alone", asked("from k join s within 0 on b get c as x"), list, "b a c", "x")
	mustHaveCols(t, "Groups of both", asked("from s join t within 5 on b where (d < c) group e,b,a session 7 get sum (c + e) as x"), list, "a b c d e", "e b a start end x")
	mustHaveNoCols(t, "no such From", asked("from q join t within 5 on b get 1 as x"), list)
	mustHaveNoCols(t, "no such Join", asked("from s join q within 5 on b get 1 as x"), list)
	mustHaveNoCols(t, "a table joined", asked("from s join u within 5 on b get 1 as x"), list)
	mustHaveNoCols(t, "a table's From", asked("from u join s within 5 on b get 1 as x"), list)
	mustHaveNoCols(t, "On in From alone", asked("from s join t within 5 on a get 1 as x"), list)
	mustHaveNoCols(t, "On in Join alone", asked("from s join t within 5 on d get 1 as x"), list)
	mustHaveNoCols(t, "On in none", asked("from s join t within 5 on z get 1 as x"), list)
	mustHaveNoCols(t, "another column in both", asked("from s join v within 5 on b get 1 as x"), list)
	mustHaveNoCols(t, "the other one of both", asked("from s join v within 5 on a get 1 as x"), list)
	mustHaveNoCols(t, "a column that is none of them", asked("from s join t within 5 on b get f as x"), list)
	mustHaveNoCols(t, "a column of the other source without it", asked("from s get d as x"), list)
	mustHaveNoCols(t, "a group that is none of them", asked("from s join t within 5 on b group f get count as x"), list)
	mustHaveNoCols(t, "a Where of none of them", asked("from s join t within 5 on b where f get 1 as x"), list)
}

func TestInsideOfALookup(t *testing.T) {
	list := sourcesIn("s a b c", "t d b e", "u! b f", "v! b a", "k! b", "w! f b", "y! f g")
	mustHaveCols(t, "a Lookup", asked("from s lookup u on b get f as x"), list, "a b c f", "x")
	mustHaveCols(t, "of another", asked("from t lookup u on b where f get (d + f) as x"), list, "d b e f", "x")
	mustHaveCols(t, "with On alone", asked("from s lookup k on b get 1 as x"), list, "a b c", "x")
	mustHaveCols(t, "Groups of both", asked("from s lookup u on b group f,b hop 4 2 get most c as x, count as y"), list, "a b c f", "f b start end x y")
	mustHaveNoCols(t, "no such From", asked("from q lookup u on b get 1 as x"), list)
	mustHaveNoCols(t, "no such Lookup", asked("from s lookup q on b get 1 as x"), list)
	mustHaveNoCols(t, "a stream looked up", asked("from s lookup t on b get 1 as x"), list)
	mustHaveNoCols(t, "a table's From", asked("from k lookup u on b get 1 as x"), list)
	mustHaveNoCols(t, "On is not the first column", asked("from s lookup w on b get 1 as x"), list)
	mustHaveNoCols(t, "the first column is not in From", asked("from s lookup w on f get 1 as x"), list)
	mustHaveNoCols(t, "On in From alone", asked("from s lookup y on a get 1 as x"), list)
	mustHaveNoCols(t, "On in none", asked("from s lookup u on z get 1 as x"), list)
	mustHaveNoCols(t, "another column in both", asked("from s lookup v on b get 1 as x"), list)
	mustHaveNoCols(t, "a column that is none of them", asked("from s lookup u on b get e as x"), list)
}

// A query whose kind of source is turned has no columns.
func TestInsideAsksForStreamsAndTables(t *testing.T) {
	for _, text := range []string{"from s get a as x", "from s join t within 5 on a get b as x", "from s lookup t on a get b as x"} {
		for turned := range 4 {
			list := sourcesIn("s a", "t a b")
			list[0].Table, list[1].Table = turned%2 == 1, turned/2 == 1
			want := turned%2 == 0 && (!strings.Contains(text, "join") || turned == 0) && (!strings.Contains(text, "lookup") || turned == 2)
			if got := len(impl.Inside(asked(text), list)) > 0; got != want {
				t.Errorf("%s, %+v: %v", text, list, got)
			}
			if got := len(impl.Outside(asked(text), list)) > 0; got != want {
				t.Errorf("outside, %s, %+v: %v", text, list, got)
			}
		}
	}
}

func TestASourceJoinedWithItself(t *testing.T) {
	list := sourcesIn("s a", "t a b", "u! a")
	mustHaveCols(t, "On is its only column", asked("from s join s within 5 on a get a as x"), list, "a", "x")
	mustHaveNoCols(t, "another column is in both", asked("from t join t within 5 on a get a as x"), list)
	mustHaveNoCols(t, "looked up in itself", asked("from s lookup s on a get a as x"), list)
	mustHaveNoCols(t, "a table looked up in itself", asked("from u lookup u on a get a as x"), list)
	mustHaveNoCols(t, "a table joined with itself", asked("from u join u within 5 on a get a as x"), list)
}

func TestInsideUpToMaxCols(t *testing.T) {
	for left := 1; left <= 12; left++ {
		for right := 1; right <= 12; right++ {
			cols := colNames(24)
			list := []impl.Source{{Name: "s", Cols: append(slices.Clone(cols[:left-1]), "k")}, {Name: "t", Cols: append([]string{"k"}, cols[12:11+right]...)}}
			want := append(slices.Clone(list[0].Cols), list[1].Cols[1:]...)
			in, out := strings.Join(want, " "), "x"
			if len(want) > 12 {
				in, out = "", ""
			}
			mustHaveCols(t, fmt.Sprint("a Join of ", left, " and ", right), asked("from s join t within 5 on k get k as x"), list, in, out)
			list[1].Table = true
			mustHaveCols(t, fmt.Sprint("a Lookup of ", left, " and ", right), asked("from s lookup t on k get k as x"), list, in, out)
		}
	}
}

func TestInsideOfWhatIsNotRight(t *testing.T) {
	list := sourcesIn("s a b", "t a c")
	good := asked("from s join t within 5 on a get c as x")
	mustHaveCols(t, "as it is", good, list, "a b c", "x")
	mustHaveNoCols(t, "no query", impl.Query{}, list)
	mustHaveNoCols(t, "a source twice", good, append(slices.Clone(list), list[0]))
	mustHaveNoCols(t, "another source that is none", good, append(slices.Clone(list), impl.Source{Name: "u"}))
	mustHaveNoCols(t, "too many sources", good, append(slices.Clone(list), manySources(12)[1:]...))
	q := plainQuery(good)
	q.Within = -1
	mustHaveNoCols(t, "a Within that is none", q, list)
	q = plainQuery(good)
	q.Gets[0].Steps = stepsIn("c c")
	mustHaveNoCols(t, "no expression", q, list)
	q = plainQuery(good)
	q.Gets = slices.Repeat(q.Gets, 9)
	mustHaveNoCols(t, "too many Gets", q, list)
	// Words are no names in a text alone.
	q = plainest()
	q.From, q.Gets[0] = "get", getting(0, "where", "count")
	mustHaveCols(t, "words", q, sourcesIn("get where"), "where", "count")
}

func TestOutside(t *testing.T) {
	list := sourcesIn("s a b start end n")
	for text, out := range map[string]string{
		"from s get a as x, b as x":                                      "",
		"from s get a as x, b as y, a as z, b as y":                      "",
		"from s get a as a, b as b":                                      "a b",
		"from s get a as b, b as a":                                      "b a",
		"from s get a as start, b as end":                                "start end",
		"from s get start as start":                                      "start",
		"from s group a get count as a":                                  "",
		"from s group a,b get count as n, sum b as b":                    "",
		"from s group a,b get count as n, sum b as a":                    "",
		"from s group a,b get count as n, sum b as n":                    "",
		"from s group b,a get count as n, sum b as m":                    "b a n m",
		"from s group n get count as n":                                  "",
		"from s group start get count as n":                              "start n",
		"from s group end,start get count as n":                          "end start n",
		"from s group a get count as start, sum b as end":                "a start end",
		"from s group start get count as start":                          "",
		"from s group a tumble 5 get count as n":                         "a start end n",
		"from s group b,a session 5 get count as n, sum a as m":          "b a start end n m",
		"from s group start tumble 5 get count as n":                     "",
		"from s group a,end hop 4 2 get count as n":                      "",
		"from s group a session 5 get count as start":                    "",
		"from s group a tumble 5 get count as n, sum b as end":           "",
		"from s group a hop 4 2 get count as start, count as end":        "",
		"from s group a tumble 5 get count as Start, sum b as END":       "a start end Start END",
		"from s group a tumble 5 get sum start as x, most end as y":      "a start end x y",
		"from s where start group a tumble 5 get sum end as ends":        "a start end ends",
		"from s group a tumble 5 get sum start as a":                     "",
		"from s group a,b,start,end,n get count as m, sum n as l":        "a b start end n m l",
		"from s group a tumble 5 get count as b, sum a as s, count as t": "a start end b s t",
	} {
		mustHaveCols(t, text, asked(text), list, "a b start end n", out)
	}
	q := impl.Query{From: "s", Groups: colNames(12), Window: 1, Size: 1}
	for i := range 8 {
		q.Gets = append(q.Gets, getting(1, "", fmt.Sprint("n", i)))
	}
	cols := strings.Join(colNames(12), " ")
	mustHaveCols(t, "as many as can be", q, sourcesIn("s "+cols), cols, cols+" start end n0 n1 n2 n3 n4 n5 n6 n7")
}

// randomSources are right, with the columns that queries at random name.
func randomSources(r *rand.Rand, q impl.Query) []impl.Source {
	list := []impl.Source{}
	for _, name := range []string{q.From, q.Join, q.Lookup, "orders", "clicks"} {
		if name == "" || slices.ContainsFunc(list, func(s impl.Source) bool { return s.Name == name }) {
			continue
		}
		s := impl.Source{Name: name, Table: name == q.Lookup && r.Intn(8) > 0 || r.Intn(20) == 0, Cols: randomCols(r, 1+r.Intn(12))}
		if q.On != "" && r.Intn(8) > 0 {
			s.Cols = slices.DeleteFunc(s.Cols, func(col string) bool { return col == q.On })
			s.Cols = append([]string{q.On}, s.Cols[:min(len(s.Cols), r.Intn(3))]...)
			if !s.Table && r.Intn(2) == 0 {
				slices.Reverse(s.Cols)
			}
		}
		list = append(list, s)
	}
	r.Shuffle(len(list), func(i, j int) { list[i], list[j] = list[j], list[i] })
	return list
}

func spoilSources(r *rand.Rand, list []impl.Source) []impl.Source {
	at := r.Intn(len(list))
	switch r.Intn(5) {
	case 0:
		list[at].Table = !list[at].Table
	case 1:
		list[at].Cols = append(list[at].Cols, pick(r, "a", "b", "", "key", list[at].Cols[0]))
	case 2:
		list[at].Name = pick(r, "", "a b", "orders", "other")
	case 3:
		return slices.Delete(list, at, at+1)
	default:
		list[at].Cols = list[at].Cols[1:]
	}
	return list
}

// fewCols names but columns that a query sees, so that more of them are there.
func fewCols(r *rand.Rand, q impl.Query, list []impl.Source) impl.Query {
	q = plainQuery(q)
	bare := impl.Query{From: q.From, Join: q.Join, Within: q.Within, On: q.On, Lookup: q.Lookup, Gets: []impl.Get{getting(0, "1", "x")}}
	cols := insideAsTold(bare, list)
	if len(cols) == 0 {
		return q
	}
	rename := func(steps []impl.Step) {
		for i := range steps {
			if steps[i].Op == 2 && r.Intn(40) > 0 {
				steps[i].Name = pick(r, cols...)
			}
		}
	}
	rename(q.Where)
	for i, g := range q.Gets {
		rename(g.Steps)
		if r.Intn(3) > 0 {
			q.Gets[i].As = fmt.Sprint("x", i)
		}
	}
	for i := range q.Groups {
		q.Groups[i] = cols[i%len(cols)]
	}
	if len(q.Groups) > len(cols) {
		q.Groups = q.Groups[:len(cols)]
	}
	return q
}

func TestInsideAndOutsideAreAsTold(t *testing.T) {
	r := rand.New(rand.NewSource(173))
	seen, told, joined := 0, 0, 0
	for range 20000 {
		q := randomQuery(r)
		list := randomSources(r, q)
		q = fewCols(r, q, list)
		if r.Intn(4) == 0 {
			list = spoilSources(r, list)
		}
		if r.Intn(10) == 0 {
			q = spoilQuery(r, q)
		}
		in, out := insideAsTold(q, list), outsideAsTold(q, list)
		mustHaveCols(t, "at random", q, list, strings.Join(in, " "), strings.Join(out, " "))
		if ok := impl.SourcesOk(list); ok != sourcesOkAsTold(list) {
			t.Errorf("%+v: %v", list, ok)
		}
		if len(in) > 0 {
			seen++
		}
		if len(out) > 0 {
			told++
		}
		if len(in) > 0 && q.On != "" {
			joined++
		}
		if t.Failed() {
			t.Fatalf("%+v %+v", q, list)
		}
	}
	if seen < 5000 || told < 3000 || joined < 1000 {
		t.Error("the columns are too much alike:", seen, told, joined)
	}
}
