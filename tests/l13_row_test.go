package tests

import (
	"bytes"
	"fmt"
	"math"
	"math/rand"
	"reflect"
	"slices"
	"strings"
	"testing"

	"loop.example/g00035/impl"
)

func TestNumbersOfRows(t *testing.T) {
	codes := []int{impl.RowFine, impl.RowId, impl.RowShort, impl.RowForm, impl.RowMore}
	if !slices.Equal(codes, []int{0, 1, 2, 3, 4}) || impl.MaxItems != 30 {
		t.Error("a number is another than the document's:", codes, impl.MaxItems)
	}
}

func rowOkAsTold(s impl.Schema, row []impl.Value) bool {
	ok := schemaOkAsTold(s) && len(row) == len(s.Fields)
	for i := 0; ok && i < len(row); i++ {
		ok = valueOfAsTold(s.Fields[i], row[i])
	}
	return ok
}

func itemBytesAsTold(kind int, num int, text string) []byte {
	switch kind {
	case 1:
		return []byte{byte(num)}
	case 4:
		return append(groupsAsTold(len(text)), text...)
	}
	return groupsAsTold(num)
}

func writeRowAsTold(id int, s impl.Schema, row []impl.Value) []byte {
	if !inBounds(id, 0, 1000000000) || !rowOkAsTold(s, row) {
		return nil
	}
	pieces := [][]byte{groupsAsTold(id)}
	for i, v := range row {
		if s.Fields[i].Maybe {
			pieces = append(pieces, []byte{byte(min(v.Kind, 1))})
		}
		switch {
		case v.Kind == 0:
		case v.List:
			pieces = append(pieces, groupsAsTold(len(v.Items)))
			for _, it := range v.Items {
				pieces = append(pieces, itemBytesAsTold(v.Kind, it.Num, it.Text))
			}
		default:
			pieces = append(pieces, itemBytesAsTold(v.Kind, v.Num, v.Text))
		}
	}
	return slices.Concat(pieces...)
}

// plainRow is a copy that is compared as a whole: no empty list is in it.
func plainRow(row []impl.Value) []impl.Value {
	var out []impl.Value
	for _, v := range row {
		out = append(out, plainValue(v))
	}
	return out
}

func sameRow(a []impl.Value, b []impl.Value) bool {
	return reflect.DeepEqual(plainRow(a), plainRow(b))
}

// rowOf is a row of its values.
func rowOf(list ...impl.Value) []impl.Value {
	return list
}

// mustWriteRow: the row has those bytes, and comes back from them.
func mustWriteRow(t *testing.T, name string, id int, s impl.Schema, row []impl.Value, want string) {
	t.Helper()
	if !impl.RowOk(s, row) || !rowOkAsTold(s, row) {
		t.Errorf("%s: %+v is a row", name, row)
	}
	if b := impl.WriteRow(id, s, row); string(b) != want {
		t.Errorf("%s: %x, not %x", name, b, want)
	}
	if b := writeRowAsTold(id, s, row); string(b) != want {
		t.Errorf("%s, as told: %x, not %x", name, b, want)
	}
	if again, code := impl.ReadRow(id, s, []byte(want)); code != impl.RowFine || !sameRow(again, row) {
		t.Errorf("%s: %x comes back as %+v, %d", name, want, again, code)
	}
}

// mustNotBeRow: it is no row, and has no bytes.
func mustNotBeRow(t *testing.T, name string, s impl.Schema, row []impl.Value) {
	t.Helper()
	if impl.RowOk(s, row) || rowOkAsTold(s, row) {
		t.Errorf("%s: %+v is no row", name, row)
	}
	if b := impl.WriteRow(1, s, row); len(b) != 0 {
		t.Errorf("%s: %x", name, b)
	}
}

func TestRowOkOfEachPlace(t *testing.T) {
	s := looks("record r", "a int", "b text maybe", "c small list")
	good := rowOf(number(1), impl.Value{}, listOf(2, items(1)))
	mustWriteRow(t, "as it is", 1, s, good, "\x02\x02\x00\x02\x02")
	mustNotBeRow(t, "no values", s, nil)
	mustNotBeRow(t, "no values, a list", s, rowOf())
	mustNotBeRow(t, "one value", s, good[:1])
	mustNotBeRow(t, "one value fewer", s, good[:2])
	mustNotBeRow(t, "one value more", s, append(slices.Clone(good), impl.Value{}))
	mustNotBeRow(t, "one value more, the last again", s, append(slices.Clone(good), good[2]))
	mustNotBeRow(t, "many values more", s, slices.Repeat(good, 100))
	mustNotBeRow(t, "another order", s, rowOf(good[2], good[1], good[0]))
	for at, others := range [][]impl.Value{
		{{}, small(1), flag(1), texted("1"), listOf(3, items(1)), number(1000000000000001), {Kind: 3, Num: 1, Text: "a"}, {Kind: 3, Items: items(1)}, {Kind: 5}, {Kind: -1}},
		{number(1), listOf(4, words("a")), texted("\x7f"), texted(strings.Repeat("a", 101)), {Text: "a"}, {Num: 1}, {List: true}, {Kind: 4, Num: 1}},
		{{}, small(1), listOf(3, items(1)), listOf(1, nil), listOf(2, items(32768)), listOf(2, items(make([]int, 31)...)), {Kind: 2, List: true, Num: 1}},
	} {
		for _, v := range others {
			row := slices.Clone(good)
			row[at] = v
			mustNotBeRow(t, fmt.Sprintf("%+v at %d", v, at), s, row)
		}
	}
}

func TestRowOkOfMissingValues(t *testing.T) {
	for kind := 1; kind <= 4; kind++ {
		for i := range 4 {
			f := impl.Field{Name: "a", Kind: kind, List: i%2 == 1, Maybe: i/2 == 1}
			s := impl.Schema{Name: "r", Fields: []impl.Field{f}}
			name := fmt.Sprintf("missing of %+v", f)
			if f.Maybe {
				mustWriteRow(t, name, 5, s, rowOf(impl.Value{}), "\x0a\x00")
			} else {
				mustNotBeRow(t, name, s, rowOf(impl.Value{}))
			}
			// What a field is where a writer had none is nothing that a row may leave out.
			f.Fixed, f.Value = true, impl.Value{Kind: kind, List: f.List}
			s = impl.Schema{Name: "r", Fields: []impl.Field{f}}
			if f.Maybe {
				mustWriteRow(t, name+", Fixed", 5, s, rowOf(impl.Value{}), "\x0a\x00")
			} else {
				mustNotBeRow(t, name+", Fixed", s, rowOf(impl.Value{}))
			}
		}
	}
}

// firstRow has for each field a value that may be one of it, if it has one.
func firstRow(s impl.Schema) []impl.Value {
	row := rowOf()
	for _, f := range s.Fields {
		row = append(row, impl.Value{Kind: f.Kind, List: f.List})
	}
	return row
}

func TestSchemasThatAreNotRightHaveNoRows(t *testing.T) {
	for name, s := range badSchemas() {
		mustNotBeRow(t, name, s, firstRow(s))
		mustNotBeRow(t, name+", of the right one", s, firstRow(user()))
		mustNotBeRow(t, name+", missing", s, make([]impl.Value, len(s.Fields)))
		mustNotBeRow(t, name+", nothing", s, nil)
	}
	for name, s := range goodSchemas() {
		row := firstRow(s)
		mustWriteRow(t, name, 7, s, row, string(writeRowAsTold(7, s, row)))
	}
}

// oneField is a schema with one field of that kind, "small list maybe" as an example.
func oneField(kind string) impl.Schema {
	return looks("record r", "a "+kind)
}

func TestWriteRowOfEachKind(t *testing.T) {
	long := strings.Repeat("x", 100)
	for _, c := range []struct {
		kind string
		v    impl.Value
		want string
	}{
		{"flag", flag(0), "\x00"}, {"flag", flag(1), "\x01"},
		{"small", small(0), "\x00"}, {"small", small(-1), "\x01"}, {"small", small(1), "\x02"}, {"small", small(63), "\x7e"}, {"small", small(-64), "\x7f"},
		{"small", small(64), "\x80\x01"}, {"small", small(-65), "\x81\x01"}, {"small", small(32767), "\xfe\xff\x03"}, {"small", small(-32768), "\xff\xff\x03"},
		{"int", number(0), "\x00"}, {"int", number(-1), "\x01"}, {"int", number(8191), "\xfe\x7f"}, {"int", number(8192), "\x80\x80\x01"}, {"int", number(32768), "\x80\x80\x04"},
		{"int", number(1000000000000000), "\x80\x80\xb4\xcc\xd4\xdf\xc6\x03"}, {"int", number(-1000000000000000), "\xff\xff\xb3\xcc\xd4\xdf\xc6\x03"},
		{"text", texted(""), "\x00"}, {"text", texted("a"), "\x02a"}, {"text", texted(" ~\"\\"), "\x08 ~\"\\"}, {"text", texted(long[:63]), "\x7e" + long[:63]}, {"text", texted(long[:64]), "\x80\x01" + long[:64]}, {"text", texted(long), "\xc8\x01" + long},
		{"flag list", listOf(1, nil), "\x00"}, {"flag list", listOf(1, items(1)), "\x02\x01"}, {"flag list", listOf(1, items(0, 1, 1)), "\x06\x00\x01\x01"},
		{"small list", listOf(2, nil), "\x00"}, {"small list", listOf(2, items(-32768, 0, 32767)), "\x06\xff\xff\x03\x00\xfe\xff\x03"}, {"small list", listOf(2, items(make([]int, 30)...)), "\x3c" + strings.Repeat("\x00", 30)},
		{"int list", listOf(3, []impl.Item{}), "\x00"}, {"int list", listOf(3, items(64, -64)), "\x04\x80\x01\x7f"},
		{"text list", listOf(4, nil), "\x00"}, {"text list", listOf(4, words("")), "\x02\x00"}, {"text list", listOf(4, words("", "ab", "c")), "\x06\x00\x04ab\x02c"}, {"text list", listOf(4, slices.Repeat(words(long), 30)), "\x3c" + strings.Repeat("\xc8\x01"+long, 30)},
	} {
		mustWriteRow(t, fmt.Sprintf("%s %+v", c.kind, c.v), 0, oneField(c.kind), rowOf(c.v), "\x00"+c.want)
		maybe := oneField(c.kind + " maybe")
		mustWriteRow(t, fmt.Sprintf("%s maybe %+v", c.kind, c.v), 0, maybe, rowOf(c.v), "\x00\x01"+c.want)
		mustWriteRow(t, c.kind+" maybe, missing", 0, maybe, rowOf(impl.Value{Items: []impl.Item{}}), "\x00\x00")
	}
}

func TestWriteRowOfManyFields(t *testing.T) {
	s := looks("record user", "id int", "name text maybe was title", "tags small list = [7]", "ok flag", "note text list maybe")
	mustWriteRow(t, "all of it", 64, s, rowOf(number(-3), texted("bo"), listOf(2, items(1, -2)), flag(1), listOf(4, words("", "x"))), "\x80\x01\x05\x01\x04bo\x04\x02\x03\x01\x01\x04\x00\x02x")
	mustWriteRow(t, "what may be missing is", 64, s, rowOf(number(-3), impl.Value{}, listOf(2, nil), flag(0), impl.Value{}), "\x80\x01\x05\x00\x00\x00\x00")
	most := impl.Schema{Name: "r", Fields: countedFields(20)}
	mustWriteRow(t, "as many fields as may be", 1, most, firstRow(most), "\x02"+strings.Repeat("\x00", 20))
	full := fullest()
	row := rowOf()
	for _, f := range full.Fields {
		row = append(row, f.Value)
	}
	mustWriteRow(t, "all of it at its most", impl.MaxOffset, full, row, "\x80\xa8\xd6\xb9\x07"+strings.Repeat("\x01\x3c"+strings.Repeat("\xc8\x01"+strings.Repeat("\"", 100), 30), 20))
}

func TestWriteRowOfEachId(t *testing.T) {
	s := oneField("flag")
	for id, want := range map[int]string{0: "\x00", 1: "\x02", 63: "\x7e", 64: "\x80\x01", 8192: "\x80\x80\x01", 999999999: "\xfe\xa7\xd6\xb9\x07", 1000000000: "\x80\xa8\xd6\xb9\x07"} {
		mustWriteRow(t, fmt.Sprint("id ", id), id, s, rowOf(flag(1)), want+"\x01")
	}
	for _, id := range []int{-1, -2, 1000000001, math.MaxInt, math.MinInt} {
		if b := impl.WriteRow(id, s, rowOf(flag(1))); len(b) != 0 {
			t.Errorf("id %d: %x", id, b)
		}
	}
}

// randomRow is always one of the schema, if that is right.
func randomRow(r *rand.Rand, s impl.Schema) []impl.Value {
	row := rowOf()
	for _, f := range s.Fields {
		row = append(row, randomValue(r, f))
	}
	return row
}

// spoilRow makes a row another list, which may be a row still.
func spoilRow(r *rand.Rand, row []impl.Value) []impl.Value {
	row = plainRow(row)
	at := r.Intn(len(row) + 1)
	switch r.Intn(6) {
	case 0:
		return row[:at]
	case 1:
		return slices.Insert(row, at, pick(r, impl.Value{}, flag(1), small(1), number(1), texted("a")))
	case 2:
		r.Shuffle(len(row), func(i, j int) { row[i], row[j] = row[j], row[i] })
	default:
		if at < len(row) {
			row[at] = spoilValue(r, row[at])
		}
	}
	return row
}

func randomId(r *rand.Rand) int {
	return pick(r, 0, 1, 63, 64, 8191, 8192, impl.MaxOffset-1, impl.MaxOffset, r.Intn(200), r.Intn(impl.MaxOffset+1))
}

func TestRowsAreAsTold(t *testing.T) {
	r := rand.New(rand.NewSource(157))
	good, bad := 0, 0
	for range 10000 {
		s := someSchema(r)
		row, id := randomRow(r, s), randomId(r)
		if r.Intn(3) == 0 {
			row = spoilRow(r, row)
		}
		if r.Intn(8) == 0 {
			s = spoilSchema(r, s)
		}
		if r.Intn(20) == 0 {
			id = pick(r, -1, impl.MaxOffset+1, math.MinInt, math.MaxInt)
		}
		if impl.RowOk(s, row) != rowOkAsTold(s, row) {
			t.Fatalf("%+v of %+v: %v", row, s, impl.RowOk(s, row))
		}
		want := writeRowAsTold(id, s, row)
		if b := impl.WriteRow(id, s, row); !bytes.Equal(b, want) {
			t.Fatalf("%d, %+v of %+v: %x, not %x", id, row, s, b, want)
		}
		if len(want) > 0 {
			good++
		} else {
			bad++
		}
	}
	if good < 5000 || bad < 2000 {
		t.Error("the rows to try are too much alike:", good, bad)
	}
}
