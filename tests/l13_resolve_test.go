package tests

import (
	"fmt"
	"math/rand"
	"slices"
	"strings"
	"testing"

	"loop.example/g00035/impl"
)

func resolveAsTold(reader impl.Schema, writer impl.Schema, row []impl.Value) ([]impl.Value, bool) {
	if !canReadAsTold(reader, writer) || !rowOkAsTold(writer, row) {
		return nil, false
	}
	places := matchesAsTold(reader, writer)
	var out []impl.Value
	for i, f := range reader.Fields {
		var v impl.Value
		switch {
		case places[i] >= 0 && row[places[i]].Kind > 0:
			v = row[places[i]]
			v.Kind = f.Kind
		case places[i] < 0 && f.Fixed:
			v = f.Value
		}
		out = append(out, v)
	}
	return out, true
}

// mustResolve: the reader sees that row, and it is one of its own.
func mustResolve(t *testing.T, name string, reader impl.Schema, writer impl.Schema, row []impl.Value, want ...impl.Value) {
	t.Helper()
	got, ok := impl.Resolve(reader, writer, row)
	if !ok || !sameRow(got, want) {
		t.Errorf("%s: %+v, %v, not %+v", name, got, ok, want)
	}
	if told, ok := resolveAsTold(reader, writer, row); !ok || !sameRow(told, want) {
		t.Errorf("%s, as told: %+v, %v", name, told, ok)
	}
	mustBeRowOf(t, name, reader, got)
}

// mustBeRowOf: it is a row, can be written, and comes back; to its own schema it is itself.
func mustBeRowOf(t *testing.T, name string, s impl.Schema, row []impl.Value) {
	t.Helper()
	b := impl.WriteRow(9, s, row)
	if !impl.RowOk(s, row) || !rowOkAsTold(s, row) || len(b) == 0 {
		t.Fatalf("%s: %+v is to be a row of %+v, %x", name, row, s, b)
	}
	if again, code := impl.ReadRow(9, s, b); code != impl.RowFine || !sameRow(again, row) {
		t.Fatalf("%s: %x comes back as %+v, %d", name, b, again, code)
	}
	if itself, ok := impl.Resolve(s, s, row); !ok || !sameRow(itself, row) {
		t.Fatalf("%s: it sees itself as %+v, %v", name, itself, ok)
	}
}

func mustNotResolve(t *testing.T, name string, reader impl.Schema, writer impl.Schema, row []impl.Value) {
	t.Helper()
	if got, ok := impl.Resolve(reader, writer, row); ok || len(got) != 0 {
		t.Errorf("%s: %+v, %v", name, got, ok)
	}
	if _, ok := resolveAsTold(reader, writer, row); ok {
		t.Errorf("%s, as told: it is seen", name)
	}
}

func TestResolveByNames(t *testing.T) {
	writer := looks("record r", "a int", "b text maybe", "c flag list", "d int was x")
	row := rowOf(number(7), texted("b"), listOf(1, items(1, 0)), number(-9))
	mustResolve(t, "itself", writer, writer, row, row...)
	mustResolve(t, "in another order", looks("record r", "d int", "c flag list", "b text maybe", "a int"), writer, row, row[3], row[2], row[1], row[0])
	mustResolve(t, "some of them", looks("record r", "c flag list"), writer, row, row[2])
	mustResolve(t, "the first and the last", looks("record r", "a int", "d int"), writer, row, row[0], row[3])
	mustResolve(t, "by one that it had", looks("record r", "z int was a"), writer, row, row[0])
	mustResolve(t, "by the first that it had", looks("record r", "z int was q,d,a"), writer, row, row[3])
	mustResolve(t, "by the last that it had", looks("record r", "y int was o,p,q,d", "z int was a"), writer, row, row[3], row[0])
	mustResolve(t, "by its name, though what it had is there", looks("record r", "d int was a"), writer, row, row[3])
	mustResolve(t, "not by what the writer had", looks("record r", "x int maybe", "a int"), writer, row, impl.Value{}, row[0])
	mustResolve(t, "a value that may be missing now", looks("record r", "a int maybe", "c flag list maybe"), writer, row, row[0], row[2])
	mustResolve(t, "what is Fixed but read", looks("record r", "a int = 5", "b text maybe = \"z\"", "c flag list = [no]"), writer, row, row[:3]...)
	row[1] = impl.Value{}
	mustResolve(t, "missing, and Fixed but read", looks("record r", "b text maybe = \"z\""), writer, row, impl.Value{})
	mustResolve(t, "missing, by one that it had", looks("record r", "z text maybe was b", "a int"), writer, row, impl.Value{}, row[0])
}

func TestResolveWhatNoneWrote(t *testing.T) {
	writer, row := looks("record r", "a int"), rowOf(number(7))
	reader := looks("record r", "b flag = yes", "c small = -32768", "a int", "d int = 1000000000000000", "e text = \"\"", "f text maybe = \"x\"")
	mustResolve(t, "Fixed of each kind", reader, writer, row, flag(1), small(-32768), number(7), number(1000000000000000), texted(""), texted("x"))
	reader = looks("record r", "b flag list = []", "c small list = [1,2]", "d int list = [0]", "e text list maybe = [\"a\",\"\"]", "a int")
	mustResolve(t, "Fixed lists", reader, writer, row, listOf(1, nil), listOf(2, items(1, 2)), listOf(3, items(0)), listOf(4, words("a", "")), number(7))
	for _, kind := range []string{"flag", "small", "int", "text"} {
		for _, list := range []string{"", " list"} {
			mustResolve(t, "Maybe alone, "+kind+list, looks("record r", "b "+kind+list+" maybe", "a int"), writer, row, impl.Value{}, number(7))
			mustResolve(t, "Fixed, and missing, "+kind+list, looks("record r", "b "+kind+list+" maybe = -", "a int"), writer, row, impl.Value{}, number(7))
		}
	}
	mustResolve(t, "nothing that was written", looks("record r", "b int = 1", "c int maybe"), writer, row, number(1), impl.Value{})
	most := impl.Schema{Name: "r", Fields: countedFields(20)}
	for i := range most.Fields {
		most.Fields[i].Maybe = true
	}
	mustResolve(t, "as many as may be", most, writer, row, make([]impl.Value, 20)...)
	full := fullest()
	full.Name = "r"
	want := rowOf()
	for _, f := range full.Fields {
		want = append(want, f.Value)
	}
	mustResolve(t, "the greatest that are Fixed", full, writer, row, want...)
}

func TestResolveSmallAsInt(t *testing.T) {
	for _, n := range []int{0, 1, -1, 32767, -32768} {
		mustResolve(t, "alone", oneField("int"), oneField("small"), rowOf(small(n)), number(n))
		mustResolve(t, "alone, by one that it had", looks("record r", "z int was a"), oneField("small"), rowOf(small(n)), number(n))
		mustResolve(t, "alone, Maybe", oneField("int maybe"), oneField("small maybe"), rowOf(small(n)), number(n))
		mustResolve(t, "alone, Maybe of the reader", oneField("int maybe"), oneField("small"), rowOf(small(n)), number(n))
		mustResolve(t, "in a list", oneField("int list"), oneField("small list"), rowOf(listOf(2, items(n, 5, n))), listOf(3, items(n, 5, n)))
		mustResolve(t, "a small as it is", oneField("small"), oneField("small"), rowOf(small(n)), small(n))
		mustNotResolve(t, "an int as a small", oneField("small"), oneField("int"), rowOf(number(n)))
		mustNotResolve(t, "a list of ints as one of smalls", oneField("small list"), oneField("int list"), rowOf(listOf(3, items(n))))
	}
	mustResolve(t, "missing", oneField("int maybe"), oneField("small maybe"), rowOf(impl.Value{}), impl.Value{})
	mustResolve(t, "a list that is missing", oneField("int list maybe"), oneField("small list maybe"), rowOf(impl.Value{}), impl.Value{})
	mustResolve(t, "an empty list", oneField("int list"), oneField("small list"), rowOf(listOf(2, nil)), listOf(3, nil))
	mustResolve(t, "the most items", oneField("int list maybe"), oneField("small list"), rowOf(listOf(2, items(make([]int, 30)...))), listOf(3, items(make([]int, 30)...)))
	mustResolve(t, "beside others", looks("record r", "b int", "a int", "c small"), looks("record r", "a small", "b int", "c small"), rowOf(small(1), number(2), small(3)), number(2), number(1), small(3))
}

func TestResolveRefuses(t *testing.T) {
	writer, row := looks("record r", "a int", "b text maybe"), rowOf(number(7), texted("b"))
	mustResolve(t, "as it is", writer, writer, row, row...)
	for name, reader := range map[string]impl.Schema{
		"another name":                   looks("record q", "a int", "b text maybe"),
		"another kind":                   looks("record r", "a text"),
		"a smaller kind":                 looks("record r", "a small"),
		"a list":                         looks("record r", "a int list"),
		"what may be missing, but not":   looks("record r", "b text"),
		"what may be missing, but Fixed": looks("record r", "b text = \"z\""),
		"a field that none wrote":        looks("record r", "a int", "b text maybe", "c int"),
		"another kind, by one it had":    looks("record r", "z flag was a"),
		"the zero value":                 {},
	} {
		mustNotResolve(t, name, reader, writer, row)
		mustNotResolve(t, name+", what is missing", reader, writer, rowOf(number(7), impl.Value{}))
	}
	for name, bad := range map[string][]impl.Value{
		"nothing": nil, "too few": row[:1], "too many": append(slices.Clone(row), impl.Value{}), "another order": rowOf(row[1], row[0]),
		"what may not be missing": rowOf(impl.Value{}, row[1]), "a number beyond": rowOf(number(1000000000000001), row[1]), "a small": rowOf(small(7), row[1]), "a bad text": rowOf(row[0], texted("\n")),
	} {
		mustNotResolve(t, name, writer, writer, bad)
		mustNotResolve(t, name+", where it is not read", looks("record r", "c int = 1"), writer, bad)
	}
	// It is the writer's row that is asked for, not the reader's.
	mustNotResolve(t, "a row of the reader", oneField("int"), oneField("small"), rowOf(number(7)))
	mustNotResolve(t, "a row of the reader, of another length", looks("record r", "a int", "c int = 1"), looks("record r", "a int"), rowOf(number(7), number(1)))
	for name, bad := range badSchemas() {
		mustNotResolve(t, name, bad, user(), firstRow(user()))
		mustNotResolve(t, name+", of the writer", user(), bad, firstRow(bad))
		mustNotResolve(t, name+", of both", bad, bad, firstRow(bad))
	}
	for name, two := range twins() {
		mustNotResolve(t, "two that read the same "+name, two, looks("record r", "a int"), rowOf(number(7)))
	}
}

func TestResolveIsAsTold(t *testing.T) {
	r := rand.New(rand.NewSource(160))
	can, not, others := 0, 0, 0
	for range 20000 {
		writer := someSchema(r)
		reader := pick(r, nextLook, rightLook)(r, writer)
		if r.Intn(2) == 0 {
			reader, writer = writer, reader
		}
		row := randomRow(r, writer)
		if r.Intn(8) == 0 {
			row = spoilRow(r, row)
		}
		want, ok := resolveAsTold(reader, writer, row)
		got, same := impl.Resolve(reader, writer, row)
		if same != ok || !sameRow(got, want) {
			t.Fatalf("%+v sees %+v of %+v as %+v, %v, not %+v, %v", reader, row, writer, got, same, want, ok)
		}
		if !ok {
			not++
			continue
		}
		can++
		if !sameRow(got, row) {
			others++
		}
		mustBeRowOf(t, "what is resolved", reader, got)
		mustBeRowOf(t, "what was written", writer, row)
	}
	if can < 4000 || not < 4000 || others < 2000 {
		t.Error("the rows to try are too much alike:", can, not, others)
	}
}

// looksOfCourse are schemas of which each can read all those ahead of it, by a registry.
func looksOfCourse(r *rand.Rand) []impl.Schema {
	g, list := impl.Registry{}, []impl.Schema{}
	s := someSchema(r)
	for len(list) < 4 {
		next, id, code := impl.Register(g, "rows", impl.Backward+impl.Always, s)
		if code == impl.RegOk && id == len(list)+1 {
			g, list = next, append(list, s)
		}
		s = rightLook(r, list[len(list)-1])
	}
	return list
}

// Rows in a log, each with the id of its schema, read by the newest schema are what Resolve says.
func TestRowsInALog(t *testing.T) {
	r := rand.New(rand.NewSource(161))
	lone, many := 0, 0
	for range 300 {
		course := looksOfCourse(r)
		newest := course[len(course)-1]
		l, want := impl.NewLog(0, 500), [][]impl.Value{}
		for range 12 {
			at := r.Intn(len(course))
			row := randomRow(r, course[at])
			b := impl.WriteRow(at+1, course[at], row)
			if len(b) > impl.MaxText {
				many++
				continue
			}
			next, code := impl.Append(l, impl.Batch{Base: l.Next, Producer: -1, Records: []impl.Record{{Keyed: true, Key: fmt.Sprint(len(want)), Value: string(b)}}})
			if code != impl.LogOkay {
				t.Fatal("append", code)
			}
			seen, ok := impl.Resolve(newest, course[at], row)
			if !ok {
				t.Fatalf("%+v can't read %+v", newest, course[at])
			}
			l, want = next, append(want, seen)
		}
		for _, pair := range impl.View(l) {
			lone++
			seen, ok := readAny(newest, course, pair.Value)
			at := 0
			fmt.Sscan(pair.Key, &at)
			if !ok || !sameRow(seen, want[at]) {
				t.Fatalf("%x is seen as %+v, not %+v", pair.Value, seen, want[at])
			}
		}
	}
	if lone < 1000 || many < 100 {
		t.Error("the rows to try are too much alike:", lone, many)
	}
}

// readAny reads a row of any of some schemas: with the ids of all others it does not begin.
func readAny(reader impl.Schema, course []impl.Schema, text string) ([]impl.Value, bool) {
	for i, s := range course {
		row, code := impl.ReadRow(i+1, s, []byte(text))
		if code == impl.RowFine {
			return impl.Resolve(reader, s, row)
		}
		if code != impl.RowId {
			return nil, false
		}
	}
	return nil, false
}

// Two that read one after the other see what one sees that reads at once, where a name tells it.
func TestResolveInTwoSteps(t *testing.T) {
	first := looks("record r", "id small", "name text maybe", "gone flag")
	second := looks("record r", "id int", "title text maybe was name", "tags text list = [\"new\"]")
	third := looks("record r", "tags text list", "key int was id", "title text maybe was label,name", "note text maybe")
	for _, row := range [][]impl.Value{rowOf(small(-5), texted("a"), flag(1)), rowOf(small(7), impl.Value{}, flag(0))} {
		seen, ok := impl.Resolve(second, first, row)
		if !ok {
			t.Fatal("the second reads the first")
		}
		want := rowOf(listOf(4, words("new")), number(row[0].Num), row[1], impl.Value{})
		mustResolve(t, "in two steps", third, second, seen, want...)
		mustNotResolve(t, "at once: tags are of none", third, first, row)
		at := looks(strings.Split(strings.TrimSuffix(strings.Replace(impl.ShowSchema(third), "tags text list", "tags text list = [\"new\"]", 1), "\n"), "\n")...)
		mustResolve(t, "at once", at, first, row, want...)
	}
}
