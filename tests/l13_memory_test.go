package tests

import (
	"math/rand"
	"reflect"
	"slices"
	"testing"

	"loop.example/g00035/impl"
)

// roomyRow is a copy of a row all of whose lists have spare room behind them, filled with what must stay.
func roomyRow(row []impl.Value) []impl.Value {
	row = plainRow(row)
	for i, v := range row {
		row[i] = roomyValue(v)
	}
	return withRoom(row, impl.Value{Kind: -7})
}

// wholeOfRow tells a row with all that stands in the room behind its lists.
func wholeOfRow(row []impl.Value) []impl.Value {
	row = withAllRoom(row)
	for i, v := range row {
		row[i].Items = withAllRoom(v.Items)
	}
	return row
}

// rowsToTry are a reader, a writer, and a row of it; some are not right.
func rowsToTry(r *rand.Rand) (impl.Schema, impl.Schema, []impl.Value) {
	writer := someSchema(r)
	reader := pick(r, nextLook, rightLook, rightLook)(r, writer)
	row := randomRow(r, writer)
	if r.Intn(8) == 0 {
		row = spoilRow(r, row)
	}
	return roomySchema(reader), roomySchema(writer), roomyRow(row)
}

func TestRowsLeaveArgumentsAlone(t *testing.T) {
	r := rand.New(rand.NewSource(162))
	for range 3000 {
		reader, writer, row := rowsToTry(r)
		b := spoilBytes(r, append([]byte{2}, impl.WriteRow(1, writer, row)...))
		if r.Intn(2) == 0 {
			b = slices.Concat(impl.WriteRow(1, writer, row), []byte(pick(r, "", "", "\x00")))
		}
		b = withRoom(b, 200)
		asReader, asWriter, asRow, asB := wholeSchema(reader), wholeSchema(writer), wholeOfRow(row), withAllRoom(b)
		impl.RowOk(writer, row)
		impl.WriteRow(1, writer, row)
		impl.ReadRow(1, writer, b)
		impl.Resolve(reader, writer, row)
		for i, v := range row {
			impl.ValueOk(v)
			impl.ValueOf(writer.Fields[min(i, len(writer.Fields)-1)], v)
			impl.ReadValue(writer.Fields[min(i, len(writer.Fields)-1)], impl.ShowValue(v))
		}
		if !reflect.DeepEqual(wholeSchema(reader), asReader) || !reflect.DeepEqual(wholeSchema(writer), asWriter) || !reflect.DeepEqual(wholeOfRow(row), asRow) || !slices.Equal(withAllRoom(b), asB) {
			t.Fatalf("an argument was changed: %+v %+v %+v %x", asReader, asWriter, asRow, asB)
		}
	}
}

// What lies behind a list's length is not looked at.
func TestRowsLookNotBehindTheLength(t *testing.T) {
	r := rand.New(rand.NewSource(163))
	for range 3000 {
		reader, writer, row := rowsToTry(r)
		bareReader, bareWriter, bareRow := plainSchema(reader), plainSchema(writer), plainRow(row)
		b := impl.WriteRow(1, writer, row)
		if impl.RowOk(writer, row) != impl.RowOk(bareWriter, bareRow) || !slices.Equal(b, impl.WriteRow(1, bareWriter, bareRow)) {
			t.Fatalf("another answer with room: %+v %+v", bareWriter, bareRow)
		}
		got, ok := impl.Resolve(reader, writer, row)
		if want, same := impl.Resolve(bareReader, bareWriter, bareRow); same != ok || !sameRow(got, want) {
			t.Fatalf("with room: %+v, %v, without: %+v, %v", got, ok, want, same)
		}
		cut := r.Intn(len(b) + 1)
		got, code := impl.ReadRow(1, writer, b[:cut])
		if want, same := impl.ReadRow(1, bareWriter, slices.Clone(b[:cut])); same != code || !sameRow(got, want) {
			t.Fatalf("with room: %+v, %d, without: %+v, %d", got, code, want, same)
		}
	}
}

func overwriteRow(row []impl.Value) {
	for i := range row {
		for j := range row[i].Items {
			row[i].Items[j] = itemBehind
		}
		_ = append(row[i].Items, itemBehind)
		row[i] = impl.Value{Kind: -7}
	}
	_ = append(row, impl.Value{Kind: -7})
}

func TestRowsAnswersAreNewMemory(t *testing.T) {
	r := rand.New(rand.NewSource(164))
	seen := 0
	for range 3000 {
		reader, writer, row := rowsToTry(r)
		b := impl.WriteRow(1, writer, row)
		mustBeNew(t, "WriteRow", b, writer, row)
		back, _ := impl.ReadRow(1, writer, b)
		mustBeNew(t, "ReadRow", back, writer, row, b)
		got, ok := impl.Resolve(reader, writer, row)
		mustBeNew(t, "Resolve", got, reader, writer, row)
		again, _ := impl.Resolve(reader, writer, row)
		mustBeNew(t, "Resolve again", again, got, reader, writer, row)
		itself, _ := impl.Resolve(writer, writer, row)
		mustBeNew(t, "Resolve by the same schema", itself, writer, row)
		for i, f := range writer.Fields[:min(len(row), len(writer.Fields))] {
			v, _ := impl.ReadValue(f, impl.ShowValue(row[i]))
			mustBeNew(t, "ReadValue", v, f, row[i])
		}
		if !ok {
			continue
		}
		seen++
		asBytes, asRow := slices.Clone(b), plainRow(row)
		want := plainRow(got)
		overwriteRow(back)
		overwriteRow(got)
		overwriteRow(itself)
		if !slices.Equal(b, asBytes) || !sameRow(row, asRow) || !sameRow(again, want) {
			t.Fatalf("an answer was another one's: %+v, %+v", want, asRow)
		}
		for i := range b {
			b[i] = '7'
		}
		if last, ok := impl.Resolve(reader, writer, row); !ok || !sameRow(last, want) {
			t.Fatalf("%+v, and before that %+v", last, want)
		}
	}
	if seen < 1000 {
		t.Error("the rows to try are too much alike:", seen)
	}
}

// What is done to a row that was answered is not to be seen in the schema whose Fixed value it has, nor in what it came from.
func TestFixedItemsAreNotHandedOut(t *testing.T) {
	reader := looks("record r", "a int list = [1,2]", "b int list = [1,2]", "c small list")
	writer := looks("record r", "c small list")
	row := rowOf(listOf(2, items(5, 6)))
	got, ok := impl.Resolve(reader, writer, row)
	want := rowOf(listOf(3, items(1, 2)), listOf(3, items(1, 2)), listOf(2, items(5, 6)))
	if !ok || !sameRow(got, want) {
		t.Fatalf("%+v, %v", got, ok)
	}
	got[0].Items[0].Num, got[2].Items[1].Num = 77, 78
	if reader.Fields[0].Value.Items[0].Num != 1 || got[1].Items[0].Num != 1 || row[0].Items[1].Num != 6 {
		t.Errorf("what was answered is the reader's: %+v, the other one's: %+v, or the row's: %+v", reader, got, row)
	}
	reader.Fields[1].Value.Items[1].Num, row[0].Items[0].Num = 79, 80
	if got[1].Items[1].Num != 2 || got[2].Items[0].Num != 5 {
		t.Errorf("what was answered has changed: %+v", got)
	}
}

// A text that was read stays, whatever comes of the bytes that it was read from.
func TestTextsOfARowAreNotItsBytes(t *testing.T) {
	s := looks("record r", "a text", "b text list")
	b := []byte("\x02\x04ab\x02\x04cd")
	row, code := impl.ReadRow(1, s, b)
	for i := range b {
		b[i] = 'z'
	}
	if code != impl.RowFine || !sameRow(row, rowOf(texted("ab"), listOf(4, words("cd")))) {
		t.Errorf("%+v, %d", row, code)
	}
}

// Nothing stays from what was refused, or from what was done.
func TestRowsKeepNothing(t *testing.T) {
	s, row, b := wholeRow()
	for range 3 {
		mustTell(t, "cut", 64, s, b[:len(b)-1], impl.RowShort)
		mustTell(t, "none", 64, s, b[:len(b)-1]+"\x02", impl.RowForm)
		mustWriteRow(t, "as it is", 64, s, row, b)
		mustNotBeRow(t, "too few", s, row[1:])
		mustTell(t, "more", 64, s, b+"\x00", impl.RowMore)
		mustTell(t, "another id", 63, s, b, impl.RowId)
		mustNotResolve(t, "a field that none wrote", looks("record r", "z int"), s, row)
		mustResolve(t, "itself", s, s, row, row...)
	}
}
