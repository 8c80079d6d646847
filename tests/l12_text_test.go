package tests

import (
	"fmt"
	"math/rand"
	"regexp"
	"slices"
	"strings"
	"testing"

	"loop.example/g00035/impl"
)

const nameTold = `[A-Za-z][A-Za-z0-9_]{0,19}`

var (
	recordForm = regexp.MustCompile(`\Arecord (` + nameTold + `)\n\z`)
	fieldForm  = regexp.MustCompile(`\A(` + nameTold + `) (flag|small|int|text)( list)?( maybe)?(?: was (` + nameTold + `(?:,` + nameTold + `){0,3}))?( = )?((?s:.*))\n\z`)
)

func fieldLineAsTold(f impl.Field) string {
	line := f.Name + " " + []string{"", "flag", "small", "int", "text"}[f.Kind]
	if f.List {
		line += " list"
	}
	if f.Maybe {
		line += " maybe"
	}
	if len(f.Was) > 0 {
		line += " was " + strings.Join(f.Was, ",")
	}
	if f.Fixed {
		line += " = " + showValueAsTold(f.Value)
	}
	return line + "\n"
}

func showSchemaAsTold(s impl.Schema) string {
	if !schemaOkAsTold(s) {
		return ""
	}
	text := "record " + s.Name + "\n"
	for _, f := range s.Fields {
		text += fieldLineAsTold(f)
	}
	if len(text) > 3000 {
		return ""
	}
	return text
}

func readFieldAsTold(line string) (impl.Field, bool) {
	words := fieldForm.FindStringSubmatch(line)
	if words == nil || words[6] == "" && words[7] != "" {
		return impl.Field{}, false
	}
	f := impl.Field{Name: words[1], Kind: slices.Index([]string{"", "flag", "small", "int", "text"}, words[2]), List: words[3] != "", Maybe: words[4] != "", Fixed: words[6] != ""}
	if words[5] != "" {
		f.Was = strings.Split(words[5], ",")
	}
	ok := true
	if f.Fixed {
		f.Value, ok = readValueAsTold(f, words[7])
	}
	return f, ok
}

func parseSchemaAsTold(text string) (impl.Schema, int) {
	if len(text) > 3000 {
		return impl.Schema{}, 1
	}
	s, stood := impl.Schema{}, map[string]bool{}
	lines := strings.SplitAfter(text, "\n")
	if lines[len(lines)-1] == "" {
		lines = lines[:len(lines)-1]
	}
	for i, line := range lines {
		if i == 0 {
			words := recordForm.FindStringSubmatch(line)
			if words == nil {
				return impl.Schema{}, 1
			}
			s.Name = words[1]
			continue
		}
		f, ok := readFieldAsTold(line)
		for _, name := range append([]string{f.Name}, f.Was...) {
			ok = ok && !stood[name]
			stood[name] = true
		}
		if !ok || i == 21 {
			return impl.Schema{}, i + 1
		}
		s.Fields = append(s.Fields, f)
	}
	if len(lines) < 2 {
		return impl.Schema{}, len(lines) + 1
	}
	return s, 0
}

// looks is the schema of lines, each without its end.
func looks(lines ...string) impl.Schema {
	s, line := parseSchemaAsTold(strings.Join(lines, "\n") + "\n")
	if line != 0 {
		panic(fmt.Sprint("line ", line, " of ", lines))
	}
	return s
}

// mustTellSchema: the schema has that text, and comes back from it.
func mustTellSchema(t *testing.T, name string, s impl.Schema, want string) {
	t.Helper()
	if text := impl.ShowSchema(s); text != want {
		t.Errorf("%s: %q, not %q", name, text, want)
	}
	if again, line := impl.ParseSchema(want); line != 0 || !sameSchema(again, s) {
		t.Errorf("%s: %q comes back as %+v, %d", name, want, again, line)
	}
	if told, line := parseSchemaAsTold(want); line != 0 || !sameSchema(told, s) || showSchemaAsTold(s) != want {
		t.Errorf("%s, as told: %+v, %d, %q", name, told, line, showSchemaAsTold(s))
	}
}

func mustHaveNoText(t *testing.T, name string, s impl.Schema) {
	t.Helper()
	if text := impl.ShowSchema(s); text != "" || showSchemaAsTold(s) != "" {
		t.Errorf("%s: %q", name, text)
	}
}

func mustBeNoSchema(t *testing.T, name string, text string, want int) {
	t.Helper()
	if s, line := impl.ParseSchema(text); line != want || !sameSchema(s, impl.Schema{}) {
		t.Errorf("%s, %q: %+v, line %d, not %d", name, text, s, line, want)
	}
	if _, line := parseSchemaAsTold(text); line != want {
		t.Errorf("%s, as told: line %d, not %d", name, line, want)
	}
}

func TestShowSchema(t *testing.T) {
	mustTellSchema(t, "one of each", user(), usersText)
	fields := map[string]impl.Field{
		"a flag\n":                {Name: "a", Kind: impl.KindFlag},
		"a small\n":               {Name: "a", Kind: impl.KindSmall},
		"a int\n":                 {Name: "a", Kind: impl.KindInt},
		"a text\n":                {Name: "a", Kind: impl.KindText},
		"a text list\n":           {Name: "a", Kind: impl.KindText, List: true},
		"a int maybe\n":           {Name: "a", Kind: impl.KindInt, Maybe: true},
		"a int list maybe\n":      {Name: "a", Kind: impl.KindInt, List: true, Maybe: true},
		"a int was b\n":           {Name: "a", Kind: impl.KindInt, Was: []string{"b"}},
		"a int was b,c\n":         {Name: "a", Kind: impl.KindInt, Was: []string{"b", "c"}},
		"a int was c,b,e,d\n":     {Name: "a", Kind: impl.KindInt, Was: []string{"c", "b", "e", "d"}},
		"a int was was,maybe\n":   {Name: "a", Kind: impl.KindInt, Was: []string{"was", "maybe"}},
		"was text was list\n":     {Name: "was", Kind: impl.KindText, Was: []string{"list"}},
		"list text list\n":        {Name: "list", Kind: impl.KindText, List: true},
		"maybe flag = no\n":       {Name: "maybe", Kind: impl.KindFlag, Fixed: true, Value: flag(0)},
		"a flag = yes\n":          {Name: "a", Kind: impl.KindFlag, Fixed: true, Value: flag(1)},
		"a small = -32768\n":      {Name: "a", Kind: impl.KindSmall, Fixed: true, Value: small(-32768)},
		"a int = 0\n":             {Name: "a", Kind: impl.KindInt, Fixed: true, Value: number(0)},
		"a text = \"\"\n":         {Name: "a", Kind: impl.KindText, Fixed: true, Value: texted("")},
		"a text = \"-\"\n":        {Name: "a", Kind: impl.KindText, Fixed: true, Value: texted("-")},
		"a text maybe = -\n":      {Name: "a", Kind: impl.KindText, Maybe: true, Fixed: true},
		"a int list maybe = -\n":  {Name: "a", Kind: impl.KindInt, List: true, Maybe: true, Fixed: true},
		"a int maybe was b = -\n": {Name: "a", Kind: impl.KindInt, Maybe: true, Was: []string{"b"}, Fixed: true},
		"a int list = []\n":       {Name: "a", Kind: impl.KindInt, List: true, Fixed: true, Value: listOf(3, nil)},
		"a flag list = [no]\n":    {Name: "a", Kind: impl.KindFlag, List: true, Fixed: true, Value: listOf(1, items(0))},
		"a text list maybe was b,c = [\"x\",\"\"]\n":     {Name: "a", Kind: impl.KindText, List: true, Maybe: true, Was: []string{"b", "c"}, Fixed: true, Value: listOf(4, words("x", ""))},
		"a text = \" \"\n":                               {Name: "a", Kind: impl.KindText, Fixed: true, Value: texted(" ")},
		"a text = \"=\"\n":                               {Name: "a", Kind: impl.KindText, Fixed: true, Value: texted("=")},
		"a text = \" = \"\n":                             {Name: "a", Kind: impl.KindText, Fixed: true, Value: texted(" = ")},
		"a text = \"a = b = c\"\n":                       {Name: "a", Kind: impl.KindText, Fixed: true, Value: texted("a = b = c")},
		"a text = \"\\\"\"\n":                            {Name: "a", Kind: impl.KindText, Fixed: true, Value: texted(`"`)},
		"a text = \"\\\\\"\n":                            {Name: "a", Kind: impl.KindText, Fixed: true, Value: texted(`\`)},
		"a text = \"\\\\n\"\n":                           {Name: "a", Kind: impl.KindText, Fixed: true, Value: texted(`\n`)},
		"a text list = [\" = \",\"\\\"\",\",\",\"]\"]\n": {Name: "a", Kind: impl.KindText, List: true, Fixed: true, Value: listOf(4, words(" = ", `"`, ",", "]"))},
	}
	for line, f := range fields {
		mustTellSchema(t, line, impl.Schema{Name: "r", Fields: []impl.Field{f}}, "record r\n"+line)
		last := impl.Field{Name: "z", Kind: impl.KindFlag}
		mustTellSchema(t, line+" ahead of another", impl.Schema{Name: "r", Fields: []impl.Field{f, last}}, "record r\n"+line+"z flag\n")
		mustTellSchema(t, line+" behind another", impl.Schema{Name: "record", Fields: []impl.Field{last, f}}, "record record\nz flag\n"+line)
	}
}

func TestShowSchemaOfEachField(t *testing.T) {
	for name, s := range goodSchemas() {
		if text := showSchemaAsTold(s); text == "" {
			mustHaveNoText(t, name, s)
		} else {
			mustTellSchema(t, name, s, text)
		}
	}
	for name, s := range badSchemas() {
		mustHaveNoText(t, name, s)
	}
}

// schemaOfSize has a text of that many bytes: 20 lines with a text that is Fixed, the last one of more or fewer bytes.
func schemaOfSize(size int) impl.Schema {
	s := impl.Schema{Name: "r"}
	left := size - len("record r\n")
	for i, name := range countedNames("f", 20) {
		f := impl.Field{Name: name, Kind: impl.KindText, Was: []string{"was_" + name, "has_" + name, "had_" + name, "got_" + name}, Fixed: true, Value: texted("")}
		f.Value.Text = strings.Repeat("v", left/(20-i)-len(fieldLineAsTold(f)))
		left -= len(fieldLineAsTold(f))
		s.Fields = append(s.Fields, f)
	}
	return s
}

func TestSchemasAtTheSizeOfAText(t *testing.T) {
	for _, size := range []int{2900, 2999, 3000} {
		text := showSchemaAsTold(schemaOfSize(size))
		if len(text) != size {
			t.Fatal("the text has", len(text), "bytes, not", size)
		}
		mustTellSchema(t, "a long text", schemaOfSize(size), text)
	}
	mustHaveNoText(t, "one byte more", schemaOfSize(3001))
	mustHaveNoText(t, "some bytes more", schemaOfSize(3010))
	mustHaveNoText(t, "many bytes more", fullest())
	whole := showSchemaAsTold(schemaOfSize(3000))
	long := "record r\n"
	for _, f := range schemaOfSize(3001).Fields {
		long += fieldLineAsTold(f)
	}
	mustBeNoSchema(t, "one byte more", long, 1)
	mustBeNoSchema(t, "a line end more", whole+"\n", 1)
	mustBeNoSchema(t, "a byte more that is none", whole+"x", 1)
	mustBeNoSchema(t, "a line in the middle is none too", strings.Replace(whole+"x", "f003 text", "f003 real", 1), 1)
	mustBeNoSchema(t, "the last byte is none", whole[:2999]+"x", 21)
	mustBeNoSchema(t, "without the last byte", whole[:2999], 21)
	mustBeNoSchema(t, "all of it twice", whole+whole, 1)
	mustBeNoSchema(t, "many bytes", strings.Repeat("x", 3001), 1)
	mustBeNoSchema(t, "as many bytes as may be, of no schema", strings.Repeat("x", 3000), 1)
	mustBeNoSchema(t, "many line ends", strings.Repeat("\n", 5000), 1)
	mustBeNoSchema(t, "many lines that are none", "record r\n"+strings.Repeat("\n", 2991), 2)
}

func TestTheFirstLineOfASchema(t *testing.T) {
	mustBeNoSchema(t, "an empty text", "", 1)
	mustBeNoSchema(t, "a record alone", "record a\n", 2)
	mustBeNoSchema(t, "a long record alone", "record "+strings.Repeat("a", 20)+"\n", 2)
	for name, line := range map[string]string{
		"an empty line": "", "a blank": " ", "no name": "record", "no name, a blank": "record ", "two blanks": "record  a", "a blank at the front": " record a", "a blank at the end": "record a ", "a tab": "record\ta", "a tab at the end": "record a\t",
		"two names": "record a b", "no word": "a", "another word": "schema a", "more of the word": "records a", "less of the word": "recor a", "a capital": "Record a", "capitals": "RECORD a", "two words": "record record a", "a line end of two": "record a\r",
		"a field": "b int", "a field's end": "record a int", "a value": "record a = 1", "names with a comma": "record a,b", "a wide letter": "record é", "a byte beyond": "record a\x80", "a nought": "record a\x00", "a digit": "record 9", "one letter more": "record " + strings.Repeat("a", 21),
	} {
		mustBeNoSchema(t, name, line+"\n", 1)
		mustBeNoSchema(t, name+", ahead of a field", line+"\nb int\n", 1)
		mustBeNoSchema(t, name+", without the line end", line, 1)
		if line != "" {
			mustBeNoSchema(t, name+", behind all", "record a\nb int\n"+line, 3)
		}
	}
	for end := range len("record a") {
		mustBeNoSchema(t, "a part of it", "record a"[:end+1], 1)
	}
	mustBeNoSchema(t, "an empty line ahead", "\nrecord a\nb int\n", 1)
	mustBeNoSchema(t, "the first line twice", "record a\nrecord a\nb int\n", 2)
	mustTellSchema(t, "a field of the record's name", looks("record a", "a int"), "record a\na int\n")
}

// noFieldLines are lines that no field has, by what is wrong with them.
func noFieldLines() map[string]string {
	lines := map[string]string{
		"an empty line": "", "a blank": " ", "two blanks": "  ", "a name": "a", "a name and a blank": "a ", "a kind": " int", "two blanks within": "a  int", "a blank at the front": " a int", "a blank at the end": "a int ", "a tab": "a\tint", "a tab at the end": "a int\t", "a line end of two": "a int\r", "a nought": "a int\x00",
		"no kind": "a real", "a kind's number": "a 3", "more of a kind": "a ints", "less of a kind": "a in", "a capital": "a Int", "capitals": "a INT", "two kinds": "a int text", "a kind twice": "a int int", "a list as its kind": "a list", "a kind behind": "a list int", "a word more": "a int b",
		"maybe ahead of list": "a int maybe list", "list twice": "a int list list", "maybe twice": "a int maybe maybe", "a list in capitals": "a int List", "lists": "a int lists", "perhaps": "a int perhaps", "two blanks ahead of list": "a int  list", "two blanks ahead of maybe": "a int list  maybe", "list and maybe in one": "a int listmaybe", "maybe ahead of the kind": "a maybe int",
		"was without a name": "a int was", "was with a blank": "a int was ", "was with two blanks": "a int was  b", "was twice": "a int was b was c", "was ahead of maybe": "a int was b maybe", "was ahead of list": "a int was b list", "a comma alone": "a int was ,", "a comma ahead": "a int was ,b", "a comma behind": "a int was b,", "two commas": "a int was b,,c", "a blank behind a comma": "a int was b, c", "a blank ahead of a comma": "a int was b ,c", "names without a comma": "a int was b c", "another comma": "a int was b;c",
		"one name more": "a int was b,c,d,e,f", "many names more": "a int was b,c,d,e,f,g,h", "a name that is none": "a int was 9", "a second that is none": "a int was b,9", "a long one that is none": "a int was " + strings.Repeat("b", 21), "a wide one": "a int was é", "no word was": "a int b,c", "Was": "a int Was b",
		"its own name": "a int was a", "its own name behind another": "a int was b,a", "a name twice": "a int was b,b", "a name twice, not side by side": "a int was b,c,b",
		"a mark alone": "a int =", "a mark and a blank": "a int = ", "a mark and blanks": "a int =  ", "no blank ahead of the mark": "a int= 1", "no blank behind the mark": "a int =1", "no blanks": "a int=1", "two blanks ahead of the mark": "a int  = 1", "two blanks behind the mark": "a int =  1", "a blank behind the value": "a int = 1 ", "two marks": "a int == 1", "two marks, with a blank": "a int = = 1", "two values": "a int = 1 = 1", "another mark": "a int : 1", "a tab ahead of the mark": "a int\t= 1", "a value without a kind": "a = 1", "a value alone": "= 1", "a value and a mark": " = 1", "was ahead of the mark": "a int was = 1", "a value ahead of was": "a int = 1 was b", "a value ahead of maybe": "a int = 1 maybe", "a value ahead of list": "a int = [1] list", "a comma ahead of the mark": "a int was b, = 1",
		"a value of a flag": "a int = no", "a value of a text": "a int = \"1\"", "a value of a list": "a int = [1]", "a list's value": "a int list = 1", "missing without Maybe": "a int = -", "missing without Maybe, a list": "a int list = -", "an item that is missing": "a int list maybe = [-]", "too great a small": "a small = 32768", "too small a small": "a small = -32769", "too great an int": "a int = 1000000000000001", "too small an int": "a int = -1000000000000001", "a text too long": "a text = \"" + strings.Repeat("t", 101) + "\"", "one item more": "a flag list = [" + strings.Repeat("no,", 30) + "no]",
		"a plus": "a int = +1", "a nought ahead": "a int = 01", "a minus and a nought": "a int = -0", "noughts": "a int = 00", "a number of bases": "a int = 0x1", "a point": "a int = 1.0", "a plus in a list": "a int list = [+1]", "a nought ahead in a list": "a int list = [1,02]", "a minus and a nought in a list": "a int list = [-0]", "a blank in a list": "a int list = [1, 2]", "a blank ahead of a comma in a list": "a int list = [1 ,2]", "a blank at a list's front": "a int list = [ 1]", "a blank at a list's end": "a int list = [1 ]", "a blank in an empty list": "a int list = [ ]", "a comma at a list's end": "a int list = [1,]", "no comma in a list": "a int list = [1 2]", "a list without its end": "a int list = [1", "a list without its front": "a int list = 1]", "a list in a list": "a int list = [[1]]",
		"a flag in capitals": "a flag = YES", "another flag": "a flag = true", "a flag as a number": "a flag = 1", "a text without marks": "a text = b", "a text without its end": "a text = \"b", "a text without its front": "a text = b\"", "another mark of a text": "a text = 'b'", "a mark within a text": "a text = \"b\"c\"", "a stroke at a text's end": "a text = \"b\\\"", "a stroke ahead of a letter": "a text = \"\\b\"", "a tab in a text": "a text = \"\t\"", "a byte of 127": "a text = \"\x7f\"", "a byte beyond 127": "a text = \"\x80\"", "the last byte": "a text = \"\xff\"", "a wide letter in a text": "a text = \"é\"", "a mark in a text, and no end": "a text = \" = ",
	}
	for _, name := range noNames {
		if !strings.Contains(name, "\n") {
			lines[fmt.Sprintf("the name %q", name)] = name + " int"
			lines[fmt.Sprintf("the name %q that it had", name)] = "a int was " + name
			lines[fmt.Sprintf("the name %q that it had, ahead of another", name)] = "a int was " + name + ",b = 1"
		}
	}
	for i, texts := range textsOfNoValue() {
		for _, text := range texts {
			if !strings.Contains(text, "\n") {
				head := "a " + []string{"text", "flag", "small", "int", "text"}[(i+3)%4+1]
				if i > 4 {
					head += " list"
				}
				lines[fmt.Sprintf("%s: %q", head, text)] = head + " maybe = " + text
			}
		}
	}
	return lines
}

func TestLinesThatAreNoFields(t *testing.T) {
	for name, line := range noFieldLines() {
		mustBeNoSchema(t, name, "record r\n"+line+"\n", 2)
		mustBeNoSchema(t, name+", ahead of others", "record r\n"+line+"\ny int\nz text\n", 2)
		mustBeNoSchema(t, name+", between others", "record r\ny int\n"+line+"\nz text\n", 3)
		mustBeNoSchema(t, name+", behind others", "record r\ny int\nz text\n"+line+"\n", 4)
		mustBeNoSchema(t, name+", twice", "record r\ny int\n"+line+"\n"+line+"\n", 3)
		mustBeNoSchema(t, name+", without the line end", "record r\ny int\n"+line+"x", 3)
	}
}

func TestLinesWithoutTheirEnd(t *testing.T) {
	for _, line := range []string{"a int", "a text list maybe was b,c = [\"x\",\"y\"]", "a flag = no"} {
		for end := range len(line) {
			mustBeNoSchema(t, "a part of a line", "record r\n"+line[:end+1], 2)
			mustBeNoSchema(t, "a part of the last line", "record r\nz int\n"+line[:end+1], 3)
		}
	}
	mustBeNoSchema(t, "an empty line at the end", usersText+"\n", 6)
	mustBeNoSchema(t, "a blank at the end", usersText+" ", 6)
	mustBeNoSchema(t, "a nought at the end", usersText+"\x00", 6)
	mustBeNoSchema(t, "line ends of two", strings.ReplaceAll(usersText, "\n", "\r\n"), 1)
	mustBeNoSchema(t, "line ends turned", strings.ReplaceAll(usersText, "\n", "\n\r"), 2)
	mustBeNoSchema(t, "line ends twice", strings.ReplaceAll(usersText, "\n", "\n\n"), 2)
	mustBeNoSchema(t, "a line end within a text", strings.Replace(usersText, "a b", "a\nb", 1), 3)
	mustBeNoSchema(t, "without line ends", strings.ReplaceAll(usersText, "\n", " "), 1)
	for _, wide := range []string{"\u010a", "\u2028", "\u0085", "\u00a0", "\ufffd", "\xc2", "\xff", "\xc0\x8a", "\x80"} {
		mustBeNoSchema(t, "in place of a line end", strings.Replace(usersText, "int\n", "int"+wide, 1), 2)
		mustBeNoSchema(t, "in place of a blank", strings.Replace(usersText, "id int", "id"+wide+"int", 1), 2)
		mustBeNoSchema(t, "in a text", strings.Replace(usersText, "a b", "a"+wide+"b", 1), 3)
		mustBeNoSchema(t, "behind a name", strings.Replace(usersText, "tags", "tags"+wide, 1), 4)
		mustBeNoSchema(t, "in a name that it had", strings.Replace(usersText, "aged", "a"+wide, 1), 5)
		mustBeNoSchema(t, "behind all", usersText+wide, 6)
		mustBeNoSchema(t, "ahead of all", wide+usersText, 1)
	}
}

func TestNamesThatStoodAhead(t *testing.T) {
	text := "record r\nid int\nname text was title,label\n"
	for _, line := range []string{"id flag", "name flag", "title flag", "label flag", "x flag was id", "x flag was name", "x flag was title", "x flag was label", "x flag was y,id", "x flag was y,z,q,label", "x flag was label = no"} {
		mustBeNoSchema(t, line, text+line+"\n", 4)
		mustBeNoSchema(t, line+", and others behind it", text+line+"\nlast int\nbad\n", 4)
		mustBeNoSchema(t, line+", later", text+"new int was newer\n"+line+"\n", 5)
	}
	for _, line := range []string{"x flag was y", "Id flag", "names int was ident,r", "r int", "record int", "titl flag was e"} {
		mustTellSchema(t, line, looks("record r", "id int", "name text was title,label", line), text+line+"\n")
	}
	mustBeNoSchema(t, "an earlier line is none", "record r\nid real\nid int\nid int\n", 2)
	mustBeNoSchema(t, "the third is the first that stood ahead", "record r\nid int\nx int was id\ny real\n", 3)
}

func TestTheNumberOfASchemasLine(t *testing.T) {
	lines := []string{"record r\n"}
	for _, f := range countedFields(20) {
		lines = append(lines, fieldLineAsTold(f))
	}
	text := strings.Join(lines, "")
	mustTellSchema(t, "as many fields as may be", impl.Schema{Name: "r", Fields: countedFields(20)}, text)
	mustTellSchema(t, "one fewer", impl.Schema{Name: "r", Fields: countedFields(19)}, strings.Join(lines[:20], ""))
	for _, more := range []string{"new int\n", "f000 int\n", "\n", "x\n", " ", "x", "new int", "\x00", "new int\nnewer int\n", "\n\n", "bad\nbad\n"} {
		mustBeNoSchema(t, "one more", text+more, 22)
		mustBeNoSchema(t, "the last that may be is none", strings.Join(lines[:20], "")+"bad\n"+more, 21)
		mustBeNoSchema(t, "the first is none", "bad\n"+strings.Join(lines[1:], "")+more, 1)
	}
	for at := range lines {
		for _, bad := range []string{"\n", "bad\n", " " + lines[at], "f real\n", lines[max(at-1, 0)] + " "} {
			if at == 1 && bad == lines[0]+" " || at == 0 && strings.HasPrefix(bad, "record") {
				continue
			}
			broken := strings.Join(lines[:at], "") + bad + strings.Join(lines[at+1:], "")
			mustBeNoSchema(t, "one that is none", broken, at+1)
			mustBeNoSchema(t, "more that are none", broken+"x\n\n", at+1)
		}
	}
}

// Promise 23.
func TestSchemasComeBackFromTheirText(t *testing.T) {
	r := rand.New(rand.NewSource(148))
	shown, not := 0, 0
	for range 8000 {
		s := someSchema(r)
		if r.Intn(4) == 0 {
			s = spoilSchema(r, s)
		}
		text := impl.ShowSchema(s)
		if want := showSchemaAsTold(s); text != want {
			t.Fatalf("%+v: %q, not %q", s, text, want)
		}
		if text == "" {
			not++
			continue
		}
		shown++
		if again, line := impl.ParseSchema(text); line != 0 || !sameSchema(again, s) {
			t.Fatalf("%+v: %q comes back as %+v, %d", s, text, again, line)
		}
	}
	if shown < 4000 || not < 1000 {
		t.Error("the schemas to try are too much alike:", shown, not)
	}
}

// nearSchemaText is a text of a schema with some bytes or words changed, which may be one of a schema still.
func nearSchemaText(r *rand.Rand) string {
	text := showSchemaAsTold(someSchema(r))
	for range r.Intn(4) {
		at := r.Intn(len(text) + 1)
		end := min(at+r.Intn(3), len(text))
		part := pick(r, "", "", "a", "b", ",", " ", "\n", "_", "9", "-", "0", "\"", "\\", "[", "]", "\x00", "\xff", " = ", "=", " list", " maybe", " was ", " was a", ",b", " int", "flag", "yes", "\nq int\n", "\nq text = \" = \"\n")
		text = text[:at] + part + text[end:]
	}
	return text
}

// wordsSchemaText is lines of words in the order that they should have, mostly.
func wordsSchemaText(r *rand.Rand) string {
	text := pick(r, "record r\n", "record r\n", "record r\n", "record r\n", "record record\n", "record\n", "")
	for i := range r.Intn(5) {
		words := []string{string(rune('a' + i)), pick(r, "flag", "small", "int", "text"), pick(r, "", "", " list"), pick(r, "", "", " maybe"), pick(r, "", "", " was "+string(rune('j'+i)), " was p"+string(rune('j'+i))+",q"+string(rune('j'+i))), pick(r, "", "", " = ") + pick(r, "", "", "1", "no", "-", "\"\"", "[]", "[1]")}
		if r.Intn(8) == 0 {
			at := r.Intn(len(words))
			words[at] = pick(r, "", " ", " list", " maybe", " was", " was a", " = 1", "a", "int", "\t")
		}
		text += words[0] + " " + words[1] + words[2] + words[3] + words[4] + words[5] + pick(r, "\n", "\n", "\n", "\n", "\n", "\n", "\n", "\n", "\n", "", " \n", "\n\n")
	}
	return text
}

// Promise 23.
func TestATextOfASchemaIsItsOwn(t *testing.T) {
	r := rand.New(rand.NewSource(149))
	taken, lines := 0, map[int]int{}
	for range 20000 {
		text := pick(r, nearSchemaText, wordsSchemaText)(r)
		want, wantLine := parseSchemaAsTold(text)
		s, line := impl.ParseSchema(text)
		if line != wantLine || !sameSchema(s, want) {
			t.Fatalf("%q: %+v, %d, not %+v, %d", text, s, line, want, wantLine)
		}
		lines[line]++
		if line != 0 {
			continue
		}
		taken++
		if again := impl.ShowSchema(s); again != text {
			t.Fatalf("%q is taken, and shown as %q", text, again)
		}
	}
	if taken < 2500 || lines[1] < 500 || lines[2] < 1000 || lines[3] < 500 || lines[4] < 200 {
		t.Error("the texts to try are too much alike:", taken, lines)
	}
}
