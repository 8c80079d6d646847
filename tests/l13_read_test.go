package tests

import (
	"bytes"
	"fmt"
	"math"
	"math/big"
	"math/rand"
	"slices"
	"strings"
	"testing"

	"loop.example/g00035/impl"
)

// A rowFault is the code of bytes that are no row.
type rowFault int

// A rowTaker has what is left of a row's bytes.
type rowTaker struct {
	left []byte
}

func (x *rowTaker) bytes(count int) []byte {
	if len(x.left) < count {
		panic(rowFault(2))
	}
	taken := x.left[:count]
	x.left = x.left[count:]
	return taken
}

func (x *rowTaker) number(least int, most int) int {
	last := slices.IndexFunc(x.left, func(c byte) bool { return c < 128 })
	if last < 0 {
		panic(rowFault(2))
	}
	groups, u := x.bytes(last+1), new(big.Int)
	for i := last; i >= 0; i-- {
		u.Add(u.Lsh(u, 7), big.NewInt(int64(groups[i]&127)))
	}
	n := new(big.Int).Rsh(u, 1)
	if u.Bit(0) == 1 {
		n.Not(n)
	}
	if !n.IsInt64() || !bytes.Equal(groupsAsTold(int(n.Int64())), groups) || !inBounds(int(n.Int64()), least, most) {
		panic(rowFault(3))
	}
	return int(n.Int64())
}

func (x *rowTaker) mark() int {
	mark := x.bytes(1)[0]
	if mark > 1 {
		panic(rowFault(3))
	}
	return int(mark)
}

func (x *rowTaker) item(kind int) impl.Item {
	switch kind {
	case 1:
		return impl.Item{Num: x.mark()}
	case 4:
		text := string(x.bytes(x.number(0, 100)))
		if !letterForm.MatchString(text) {
			panic(rowFault(3))
		}
		return impl.Item{Text: text}
	}
	return impl.Item{Num: x.number(leastOfKinds[kind], mostOfKinds[kind])}
}

func (x *rowTaker) value(f impl.Field) impl.Value {
	if f.Maybe && x.mark() == 0 {
		return impl.Value{}
	}
	v := impl.Value{Kind: f.Kind, List: f.List}
	if !f.List {
		it := x.item(f.Kind)
		v.Num, v.Text = it.Num, it.Text
		return v
	}
	for range x.number(0, 30) {
		v.Items = append(v.Items, x.item(f.Kind))
	}
	return v
}

func readRowAsTold(id int, s impl.Schema, b []byte) (row []impl.Value, code int) {
	if !schemaOkAsTold(s) || !inBounds(id, 0, 1000000000) {
		return nil, 3
	}
	left, begins := bytes.CutPrefix(b, groupsAsTold(id))
	if !begins {
		return nil, 1
	}
	defer func() {
		if fault, ok := recover().(rowFault); ok {
			row, code = nil, int(fault)
		}
	}()
	x := rowTaker{left: left}
	for _, f := range s.Fields {
		row = append(row, x.value(f))
	}
	if len(x.left) > 0 {
		return nil, 4
	}
	return row, 0
}

// mustTell: those bytes are no row, and nothing but that code comes of them.
func mustTell(t *testing.T, name string, id int, s impl.Schema, b string, want int) {
	t.Helper()
	if row, code := impl.ReadRow(id, s, []byte(b)); code != want || len(row) != 0 {
		t.Errorf("%s: %x is told as %+v, %d, not %d", name, b, row, code, want)
	}
	if row, code := readRowAsTold(id, s, []byte(b)); code != want || len(row) != 0 {
		t.Errorf("%s, as told: %x is %+v, %d, not %d", name, b, row, code, want)
	}
}

// wholeRow is a row with a value of each sort, and its bytes at id 64.
func wholeRow() (impl.Schema, []impl.Value, string) {
	s := looks("record r", "a int", "b text maybe", "c small list", "d flag", "e text list maybe", "f flag list", "g int maybe")
	row := rowOf(number(-300), texted("b~"), listOf(2, items(5, 300)), flag(1), listOf(4, words("", "xyz")), listOf(1, items(0, 1)), impl.Value{})
	return s, row, "\x80\x01" + "\xd7\x04" + "\x01\x04b~" + "\x04\x0a\xd8\x04" + "\x01" + "\x01\x04\x00\x06xyz" + "\x04\x00\x01" + "\x00"
}

func TestReadRowOfAnotherId(t *testing.T) {
	s, row, b := wholeRow()
	mustWriteRow(t, "as it is", 64, s, row, b)
	for _, id := range []int{0, 1, 63, 65, 8192, impl.MaxOffset} {
		mustTell(t, fmt.Sprint("of 64, asked for ", id), id, s, b, impl.RowId)
	}
	mustTell(t, "no bytes", 64, s, "", impl.RowId)
	mustTell(t, "no bytes, of a short id", 0, s, "", impl.RowId)
	mustTell(t, "bytes that end within the id", 64, s, "\x80", impl.RowId)
	mustTell(t, "bytes that end within a long id", impl.MaxOffset, s, "\x80\xa8\xd6\xb9", impl.RowId)
	mustTell(t, "the id behind another byte", 64, s, "\x00"+b, impl.RowId)
	mustTell(t, "an id with more groups than it needs", 1, oneField("flag"), "\x82\x00\x01", impl.RowId)
	mustTell(t, "an id below 0", 1, oneField("flag"), "\x03\x01", impl.RowId)
	mustTell(t, "an id that is none", 1, oneField("flag"), strings.Repeat("\xff", 12), impl.RowId)
	mustTell(t, "a right row behind another id", 1, oneField("flag"), "\x04\x01", impl.RowId)
	mustTell(t, "no row behind another id", 1, oneField("flag"), "\x04\x02\x02", impl.RowId)
	mustTell(t, "the id alone", 1, oneField("flag"), "\x02", impl.RowShort)
	mustTell(t, "a long id alone", impl.MaxOffset, oneField("flag"), "\x80\xa8\xd6\xb9\x07", impl.RowShort)
}

func TestReadRowAsksForSchemaAndIdFirst(t *testing.T) {
	s := oneField("flag")
	for _, id := range []int{-1, -64, math.MinInt, impl.MaxOffset + 1, math.MaxInt} {
		for _, b := range []string{"", "\x01", "\x01\x01", "\x02\x01", string(groupsAsTold(id)) + "\x01", string(groupsAsTold(id)), string(groupsAsTold(id)) + "\x01\x01", "\x80"} {
			mustTell(t, fmt.Sprint("id ", id), id, s, b, impl.RowForm)
		}
	}
	for name, bad := range badSchemas() {
		for _, b := range []string{"", "\x02", "\x02\x00", "\x02\x00\x00\x00\x00", "\x04\x00", "\x02\x80", "\x02\x02", string(writeRowAsTold(1, user(), firstRow(user())))} {
			mustTell(t, name, 1, bad, b, impl.RowForm)
		}
		mustTell(t, name+", no id", -1, bad, "\x02\x00", impl.RowForm)
	}
}

// mustEndEarly: what ends ahead of a row's end, but behind its id, is short, and what goes on behind it is more.
func mustEndEarly(t *testing.T, name string, id int, s impl.Schema, b string) {
	t.Helper()
	begin := len(groupsAsTold(id))
	for end := range len(b) {
		want := impl.RowShort
		if end < begin {
			want = impl.RowId
		}
		mustTell(t, fmt.Sprintf("%s, cut at %d", name, end), id, s, b[:end], want)
	}
	for _, more := range []string{"\x00", "\x01", "\x80", "\xff", "\x00\x00", b} {
		mustTell(t, fmt.Sprintf("%s, %x behind it", name, more), id, s, b+more, impl.RowMore)
	}
}

func TestReadRowOfBytesThatEndElsewhere(t *testing.T) {
	s, _, b := wholeRow()
	mustEndEarly(t, "a whole row", 64, s, b)
	mustEndEarly(t, "a missing value", 1, oneField("int maybe"), "\x02\x00")
	mustEndEarly(t, "an empty list", 1, oneField("text list"), "\x02\x00")
	mustEndEarly(t, "an empty text", 1, oneField("text"), "\x02\x00")
	mustEndEarly(t, "a great number", 1, oneField("int"), "\x02\x80\x80\xb4\xcc\xd4\xdf\xc6\x03")
	mustEndEarly(t, "a long text", 1, oneField("text"), "\x02\xc8\x01"+strings.Repeat("x", 100))
	mustEndEarly(t, "the most items", 1, oneField("flag list"), "\x02\x3c"+strings.Repeat("\x01", 30))
	mustEndEarly(t, "a long id", impl.MaxOffset, oneField("small"), "\x80\xa8\xd6\xb9\x07\x80\x01")
	// What would be none were it all there ends too early first: a number's groups have no last one, a text has fewer bytes than its length says.
	for _, kind := range []string{"flag list", "small", "int", "text", "int list"} {
		for _, open := range []int{1, 2, 3, 9, 10, 11, 500} {
			mustTell(t, "groups without a last one, "+kind, 1, oneField(kind), "\x02"+strings.Repeat("\xff", open), impl.RowShort)
			mustTell(t, "groups of nought without a last one, "+kind, 1, oneField(kind), "\x02"+strings.Repeat("\x80", open), impl.RowShort)
		}
	}
	mustTell(t, "a text with a byte that may not, cut", 1, oneField("text"), "\x02\x04\x1f", impl.RowShort)
}

// formFaults has, for what a schema's one field is, bytes that are none where they are met.
func formFaults() map[string][]string {
	tooLong := []string{"\x80\x00", "\x82\x00", "\x81\x80\x00", "\xff\xff\xff\xff\xff\xff\xff\xff\x80\x00", "\x80\x80\x80\x80\x80\x80\x80\x80\x80\x00"}
	beyond := []string{"\xff\xff\xff\xff\xff\xff\xff\xff\xff\x01", "\xfe\xff\xff\xff\xff\xff\xff\xff\xff\x01", "\xff\xff\xff\xff\xff\xff\xff\xff\xff\x02", "\x80\x80\x80\x80\x80\x80\x80\x80\x80\x02", "\xff\xff\xff\xff\xff\xff\xff\xff\xff\x7f", "\x80\x80\x80\x80\x80\x80\x80\x80\x80\x80\x01", "\xff\xff\xff\xff\xff\xff\xff\xff\xff\xff\x01", strings.Repeat("\xff", 30) + "\x01"}
	numbers := slices.Concat(tooLong, beyond)
	marks := []string{"\x02", "\x03", "\x7f", "\x80", "\x81", "\xff"}
	faults := map[string][]string{
		"flag": marks,
		// 32768, -32769, 10^15, -10^15
		"small": append(slices.Clone(numbers), "\x80\x80\x04", "\x81\x80\x04", "\x80\x80\xb4\xcc\xd4\xdf\xc6\x03", "\xff\xff\xb3\xcc\xd4\xdf\xc6\x03"),
		// 10^15 + 1, -10^15 - 1
		"int": append(slices.Clone(numbers), "\x82\x80\xb4\xcc\xd4\xdf\xc6\x03", "\x81\x80\xb4\xcc\xd4\xdf\xc6\x03"),
		// the lengths -1, -2, -100, 101, 102
		"text": append(slices.Clone(numbers), "\x01", "\x03", "\xc7\x01", "\xca\x01", "\xcc\x01", "\xca\x01"+strings.Repeat("a", 101), "\x02\x1f", "\x02\x7f", "\x02\x00", "\x02\x80", "\x02\xff", "\x06ab\x0a", "\x06\x09ab", "\x06a\x7fb", "\xc8\x01"+strings.Repeat("a", 99)+"\x7f"),
	}
	for kind, ones := range map[string][]string{"flag": {"\x00", "\x01"}, "small": {"\x00", "\xfe\xff\x03"}, "int": {"\x00", "\x80\x80\x04"}, "text": {"\x00", "\x04ab"}} {
		// the counts -1, -2, -30, 31, 32
		list := append(slices.Clone(numbers), "\x01", "\x03", "\x3b", "\x3e", "\x40", "\x3e"+strings.Repeat(ones[0], 31))
		for _, fault := range faults[kind] {
			list = append(list, "\x02"+fault, "\x06"+fault, "\x06"+ones[0]+fault, "\x06"+ones[0]+ones[1]+fault, "\x3c"+strings.Repeat(ones[1], 29)+fault)
		}
		faults[kind+" list"] = list
	}
	for kind, list := range faults {
		with := slices.Clone(marks)
		for _, fault := range list {
			with = append(with, "\x01"+fault)
		}
		faults[kind+" maybe"] = with
	}
	return faults
}

// A fault is told where it is met, whatever comes behind it: nothing, too little, the row's right end, too much, another fault.
func TestReadRowOfBytesThatAreNone(t *testing.T) {
	for kind, list := range formFaults() {
		s := looks("record r", "a int maybe", "b "+kind, "c text")
		alone := oneField(kind)
		for _, fault := range list {
			name := fmt.Sprintf("%s, %x", kind, fault)
			for _, behind := range []string{"", "\x00", "\x04", "\x04a", "\x04ab", "\x04abc", "\x80", "\xff", "\x02\x7f"} {
				mustTell(t, name, 1, s, "\x02\x00"+fault+behind, impl.RowForm)
				mustTell(t, name+", another ahead of it", 1, s, "\x02\x01\x05"+fault+behind, impl.RowForm)
			}
			mustTell(t, name+", alone", 5, alone, "\x0a"+fault, impl.RowForm)
			if len(fault) < 100 {
				mustTell(t, name+", behind a text that ends too early", 1, looks("record r", "a text", "b "+kind), "\x02\xc8\x01"+fault, impl.RowShort)
			}
		}
	}
}

// spoilBytes makes other bytes of a row's, which may be a row still.
func spoilBytes(r *rand.Rand, b []byte) []byte {
	b = slices.Clone(b)
	at := r.Intn(len(b) + 1)
	switch r.Intn(5) {
	case 0:
		return b[:at]
	case 1:
		return slices.Insert(b, at, pick(r, 0, 1, 2, 62, 127, 128, 129, 255, byte(r.Intn(256))))
	case 2:
		return slices.Delete(b, at, min(at+1+r.Intn(3), len(b)))
	case 3:
		return append(b, randomBytes(r, 1+r.Intn(3), 256)...)
	default:
		if at < len(b) {
			b[at] = pick(r, 0, 1, 2, 62, 127, 128, 129, 255, b[at]+1, b[at]-1, b[at]^128, byte(r.Intn(256)))
		}
	}
	return b
}

func TestReadRowIsAsTold(t *testing.T) {
	r := rand.New(rand.NewSource(158))
	codes := map[int]int{}
	for range 20000 {
		s, id := someSchema(r), randomId(r)
		b := writeRowAsTold(id, s, randomRow(r, s))
		for range r.Intn(3) {
			b = spoilBytes(r, b)
		}
		if r.Intn(20) == 0 {
			s = spoilSchema(r, s)
		}
		if r.Intn(20) == 0 {
			id = pick(r, -1, impl.MaxOffset+1, randomId(r))
		}
		want, code := readRowAsTold(id, s, b)
		if row, same := impl.ReadRow(id, s, b); same != code || !sameRow(row, want) {
			t.Fatalf("%x of %d, %+v: %+v, %d, not %+v, %d", b, id, s, row, same, want, code)
		}
		if code == impl.RowFine && !bytes.Equal(impl.WriteRow(id, s, want), b) {
			t.Fatalf("%+v of %d, %+v: not %x", want, id, s, b)
		}
		codes[code]++
	}
	for code := impl.RowFine; code <= impl.RowMore; code++ {
		if codes[code] < 1000 {
			t.Error("the bytes to try are too much alike:", codes)
		}
	}
}

func TestRowsComeBackFromTheirBytes(t *testing.T) {
	r := rand.New(rand.NewSource(159))
	for range 10000 {
		s, id := someSchema(r), randomId(r)
		row := randomRow(r, s)
		b := impl.WriteRow(id, s, row)
		if !impl.RowOk(s, row) || len(b) == 0 {
			t.Fatalf("%+v of %+v is a row", row, s)
		}
		if again, code := impl.ReadRow(id, s, b); code != impl.RowFine || !sameRow(again, row) {
			t.Fatalf("%+v of %+v: %x comes back as %+v, %d", row, s, b, again, code)
		}
		end := r.Intn(len(b))
		want := impl.RowShort
		if end < len(groupsAsTold(id)) {
			want = impl.RowId
		}
		mustTell(t, "cut", id, s, string(b[:end]), want)
		mustTell(t, "a byte more", id, s, string(b)+string(randomBytes(r, 1, 256)), impl.RowMore)
	}
}

// Every list of some few bytes is a row that is written just so, or none.
func TestEveryFewBytesAreOneRowOrNone(t *testing.T) {
	for _, kind := range []string{"flag", "small", "int", "text", "flag list", "small list", "text list", "flag maybe", "int maybe", "text maybe", "int list maybe"} {
		s := oneField(kind)
		for i := range 1 << 16 {
			b := []byte{2, byte(i >> 8), byte(i)}
			row, code := impl.ReadRow(1, s, b)
			if code == impl.RowFine {
				if !bytes.Equal(impl.WriteRow(1, s, row), b) {
					t.Fatalf("%s: %x is %+v, which is written otherwise", kind, b, row)
				}
				continue
			}
			if _, want := readRowAsTold(1, s, b); code != want || len(row) != 0 {
				t.Fatalf("%s: %x is told as %+v, %d, not %d", kind, b, row, code, want)
			}
		}
	}
}
