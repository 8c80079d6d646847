package tests

import (
	"fmt"
	"math"
	"math/rand"
	"reflect"
	"slices"
	"strings"
	"testing"

	"loop.example/g00035/impl"
)

func TestLimitsOfSchemas(t *testing.T) {
	limits := []int{impl.MaxFields, impl.MaxWas, impl.MaxSchemaText, impl.MaxSubjects, impl.MaxVersions, impl.MaxInt, impl.MaxItems, impl.MaxText}
	if !slices.Equal(limits, []int{20, 4, 3000, 20, 20, 1000000000000000, 30, 100}) {
		t.Error("a limit is another than the document's:", limits)
	}
	kinds := []int{impl.KindFlag, impl.KindSmall, impl.KindInt, impl.KindText}
	modes := []int{impl.Backward, impl.Forward, impl.Full, impl.Always}
	codes := []int{impl.RegOk, impl.RegBad, impl.RegUnfit, impl.RegFull}
	if !slices.Equal(kinds, []int{1, 2, 3, 4}) || !slices.Equal(modes, []int{1, 2, 4, 8}) || !slices.Equal(codes, []int{0, 1, 2, 3}) {
		t.Error("a number is another than the document's:", kinds, modes, codes)
	}
}

func fieldOkAsTold(f impl.Field) bool {
	ok := nameForm.MatchString(f.Name) && inBounds(f.Kind, 1, 4) && len(f.Was) <= 4
	for _, name := range f.Was {
		ok = ok && nameForm.MatchString(name)
	}
	if f.Fixed {
		return ok && valueOfAsTold(f, f.Value)
	}
	return ok && sameValue(f.Value, impl.Value{})
}

func schemaOkAsTold(s impl.Schema) bool {
	ok := nameForm.MatchString(s.Name) && inBounds(len(s.Fields), 1, 20)
	stood := map[string]int{}
	for _, f := range s.Fields {
		ok = ok && fieldOkAsTold(f)
		for _, name := range append([]string{f.Name}, f.Was...) {
			stood[name]++
			ok = ok && stood[name] == 1
		}
	}
	return ok
}

// plainSchema is a copy that is compared as a whole: no empty list is in it.
func plainSchema(s impl.Schema) impl.Schema {
	s.Fields = append([]impl.Field(nil), s.Fields...)
	for i, f := range s.Fields {
		s.Fields[i].Was, s.Fields[i].Value = append([]string(nil), f.Was...), plainValue(f.Value)
	}
	return s
}

func sameSchema(a impl.Schema, b impl.Schema) bool {
	return reflect.DeepEqual(plainSchema(a), plainSchema(b))
}

// user has a field of each sort.
func user() impl.Schema {
	return impl.Schema{Name: "user", Fields: []impl.Field{
		{Name: "id", Kind: impl.KindInt},
		{Name: "name", Kind: impl.KindText, Maybe: true, Was: []string{"title", "label"}, Fixed: true, Value: texted("a b")},
		{Name: "tags", Kind: impl.KindSmall, List: true, Fixed: true, Value: listOf(impl.KindSmall, items(1, -2))},
		{Name: "old", Kind: impl.KindFlag, Was: []string{"aged"}},
	}}
}

const usersText = "record user\nid int\nname text maybe was title,label = \"a b\"\ntags small list = [1,-2]\nold flag was aged\n"

// countedFields are so many fields with names of their own.
func countedFields(count int) []impl.Field {
	list := []impl.Field{}
	for i, name := range countedNames("f", count) {
		list = append(list, impl.Field{Name: name, Kind: 1 + i%4, Was: []string{"w" + name}})
	}
	return list
}

type schemaChange func(s *impl.Schema)

func altered(changes ...schemaChange) impl.Schema {
	s := user()
	for _, do := range changes {
		do(&s)
	}
	return s
}

func fieldAt(at int, do func(f *impl.Field)) schemaChange {
	return func(s *impl.Schema) { do(&s.Fields[at]) }
}

func kindAt(at int, kind int) schemaChange {
	return fieldAt(at, func(f *impl.Field) { f.Kind = kind })
}

func wasAt(at int, names ...string) schemaChange {
	return fieldAt(at, func(f *impl.Field) { f.Was = names })
}

func nameAt(at int, name string) schemaChange {
	return fieldAt(at, func(f *impl.Field) { f.Name = name })
}

// fixedAs makes the first field one of that kind that is Fixed.
func fixedAs(kind int, list bool, maybe bool, v impl.Value) schemaChange {
	return fieldAt(0, func(f *impl.Field) { f.Kind, f.List, f.Maybe, f.Fixed, f.Value = kind, list, maybe, true, v })
}

func ofFields(list []impl.Field) schemaChange {
	return func(s *impl.Schema) { s.Fields = list }
}

func ofName(name string) schemaChange {
	return func(s *impl.Schema) { s.Name = name }
}

func goodSchemas() map[string]impl.Schema {
	longName := strings.Repeat("n", 20)
	good := map[string]impl.Schema{
		"as it is":                      altered(),
		"a short name":                  altered(ofName("a")),
		"a long name":                   altered(ofName(longName)),
		"a name of all":                 altered(ofName("Z9_a")),
		"the name of a field":           altered(ofName("id")),
		"a word as its name":            altered(ofName("record")),
		"one field":                     altered(ofFields([]impl.Field{{Name: "a", Kind: 1}})),
		"as many fields as may be":      altered(ofFields(countedFields(20))),
		"one field fewer":               altered(ofFields(countedFields(19))),
		"a flag":                        altered(kindAt(0, 1)),
		"a text":                        altered(kindAt(0, 4)),
		"a field with a long name":      altered(nameAt(0, longName)),
		"a field with a short name":     altered(nameAt(0, "x")),
		"fields that words name":        altered(nameAt(0, "list"), nameAt(1, "maybe"), nameAt(2, "was"), nameAt(3, "int"), wasAt(3, "record", "text")),
		"names that differ in a letter": altered(nameAt(0, "Name"), nameAt(3, "names"), wasAt(3, "nam")),
		"no name that it had":           altered(wasAt(1)),
		"no name that it had, a list":   altered(wasAt(0, []string{}...)),
		"as many names as may be":       altered(wasAt(0, "a", "b", "c", longName)),
		"List and Maybe":                altered(fieldAt(0, func(f *impl.Field) { f.List, f.Maybe = true, true })),
		"not Fixed, an empty list":      altered(fieldAt(0, func(f *impl.Field) { f.Value.Items = []impl.Item{} })),
		"all of it at its most":         fullest(),
	}
	for name, v := range goodValues() {
		good["Fixed, "+name] = altered(fixedAs(max(v.Kind, 1), v.List, v.Kind == 0, v))
		good["Fixed, with Maybe, "+name] = altered(fixedAs(max(v.Kind, 1), v.List, true, v))
	}
	for kind := 1; kind <= 4; kind++ {
		good[fmt.Sprint("Fixed and missing, of the kind ", kind)] = altered(fixedAs(kind, false, true, impl.Value{}))
		good[fmt.Sprint("Fixed and missing, a list of the kind ", kind)] = altered(fixedAs(kind, true, true, impl.Value{}))
	}
	return good
}

// fullest has as many names and values as a schema may; there is no room for them in a text.
func fullest() impl.Schema {
	s := impl.Schema{Name: strings.Repeat("s", 20)}
	for i := range 20 {
		f := impl.Field{Name: fmt.Sprintf("f%019d", i), Kind: impl.KindText, List: true, Maybe: true, Fixed: true}
		for j := range 4 {
			f.Was = append(f.Was, fmt.Sprintf("w%d_%017d", j, i))
		}
		f.Value = listOf(impl.KindText, slices.Repeat(words(strings.Repeat("\"", 100)), 30))
		s.Fields = append(s.Fields, f)
	}
	return s
}

func badSchemas() map[string]impl.Schema {
	bad := map[string]impl.Schema{
		"the zero value":             {},
		"no field":                   altered(ofFields(nil)),
		"no field, a list":           altered(ofFields([]impl.Field{})),
		"one field more":             altered(ofFields(countedFields(21))),
		"many fields more":           altered(ofFields(countedFields(500))),
		"a field of the zero value":  altered(fieldAt(2, func(f *impl.Field) { *f = impl.Field{} })),
		"one name more that it had":  altered(wasAt(0, "a", "b", "c", "d", "e")),
		"its own name that it had":   altered(wasAt(0, "id")),
		"another's name, ahead":      altered(wasAt(3, "id")),
		"another's name, behind":     altered(wasAt(0, "old")),
		"what another had, ahead":    altered(wasAt(3, "x", "label")),
		"what another had, behind":   altered(wasAt(0, "aged")),
		"one twice that it had":      altered(wasAt(0, "a", "b", "a")),
		"one twice, side by side":    altered(wasAt(0, "a", "a")),
		"a name that another has":    altered(nameAt(3, "id")),
		"the neighbour's name":       altered(nameAt(1, "id")),
		"a name that another had":    altered(nameAt(0, "title")),
		"the last that another had":  altered(nameAt(3, "label")),
		"not Fixed, a flag":          altered(fieldAt(3, func(f *impl.Field) { f.Value = flag(0) })),
		"not Fixed, an int":          altered(fieldAt(0, func(f *impl.Field) { f.Value = number(1) })),
		"not Fixed, a Num":           altered(fieldAt(0, func(f *impl.Field) { f.Value.Num = 1 })),
		"not Fixed, a Text":          altered(fieldAt(0, func(f *impl.Field) { f.Value.Text = "a" })),
		"not Fixed, List":            altered(fieldAt(0, func(f *impl.Field) { f.Value.List = true })),
		"not Fixed, Items":           altered(fieldAt(0, func(f *impl.Field) { f.Value.Items = items(0) })),
		"not Fixed any more":         altered(fieldAt(1, func(f *impl.Field) { f.Fixed = false })),
		"Fixed, and missing":         altered(fieldAt(0, func(f *impl.Field) { f.Fixed = true })),
		"Fixed, and missing, a list": altered(fixedAs(2, true, false, impl.Value{})),
		"Fixed, another List":        altered(fixedAs(2, true, true, small(1))),
		"Fixed, no List":             altered(fixedAs(2, false, true, listOf(2, items(1)))),
		"Fixed, an empty List":       altered(fixedAs(2, false, true, listOf(2, nil))),
		"Fixed, a small as an int":   altered(fixedAs(3, false, true, small(1))),
		"Fixed, an int as a small":   altered(fixedAs(2, false, true, number(1))),
		"Fixed, a flag as a small":   altered(fixedAs(2, false, true, flag(1))),
		"Fixed, a text as a flag":    altered(fixedAs(1, false, true, texted(""))),
		"Fixed, smalls as ints":      altered(fixedAs(3, true, true, listOf(2, items(1)))),
		"Fixed, smalls as texts":     altered(fixedAs(4, true, true, listOf(2, nil))),
		"Fixed, of no kind":          altered(fixedAs(0, false, true, impl.Value{})),
		"Fixed, of a kind that none": altered(fixedAs(5, false, true, impl.Value{})),
	}
	for _, kind := range []int{math.MinInt, -1, 0, 5, 6, math.MaxInt} {
		bad[fmt.Sprint("Kind ", kind)] = altered(kindAt(0, kind))
		bad[fmt.Sprint("the last Kind ", kind)] = altered(kindAt(3, kind))
	}
	for _, name := range append(slices.Clone(noNames), "a,b", "a=b", "a\x80", "\xff", "a\"", "*") {
		bad[fmt.Sprintf("the name %q", name)] = altered(ofName(name))
		bad[fmt.Sprintf("a field's name %q", name)] = altered(nameAt(0, name))
		bad[fmt.Sprintf("a last field's name %q", name)] = altered(nameAt(3, name))
		bad[fmt.Sprintf("a name %q that it had", name)] = altered(wasAt(0, name))
		bad[fmt.Sprintf("a last name %q that it had", name)] = altered(wasAt(3, "x", "y", "z", name))
	}
	for name, v := range badValues() {
		bad["Fixed, "+name] = altered(fixedAs(min(max(v.Kind, 1), 4), v.List, true, v))
	}
	return bad
}

func TestSchemaOk(t *testing.T) {
	for name, s := range goodSchemas() {
		if !impl.SchemaOk(s) || !schemaOkAsTold(s) {
			t.Errorf("%s: %+v is right", name, s)
		}
	}
	for name, s := range badSchemas() {
		if impl.SchemaOk(s) || schemaOkAsTold(s) {
			t.Errorf("%s: %+v is not right", name, s)
		}
	}
}

// schemaNames are few, so that fields of two schemas meet each other.
var schemaNames = []string{"a", "b", "c", "d", "e", "f", "A", "a_1", "was", "list", strings.Repeat("n", 19), strings.Repeat("n", 20)}

// someSchema is always right; the names of fields come from few, but where it has many.
func someSchema(r *rand.Rand) impl.Schema {
	names := slices.Clone(schemaNames)
	count := pick(r, 1, 1, 2, 2, 3, 4, 5, 8)
	if r.Intn(12) == 0 {
		names, count = append(names, countedNames("x", 120)...), pick(r, 18, 19, 20)
	}
	r.Shuffle(len(names), func(i, j int) { names[i], names[j] = names[j], names[i] })
	s := impl.Schema{Name: pick(r, "rec", "rec", "rec", "rec", "r_2", schemaNames[11])}
	take := func() string {
		name := names[0]
		names = names[1:]
		return name
	}
	for left := count; left > 0; left-- {
		f := randomField(r, take())
		for range min(pick(r, 0, 0, 0, 1, 2, 4), len(names)-left) {
			f.Was = append(f.Was, take())
		}
		if f.Fixed = r.Intn(2) == 0; f.Fixed {
			f.Value = randomValue(r, f)
		}
		s.Fields = append(s.Fields, f)
	}
	return s
}

// spoilSchema changes a schema so that it is not right, as a rule.
func spoilSchema(r *rand.Rand, s impl.Schema) impl.Schema {
	if s = plainSchema(s); len(s.Fields) == 0 {
		return s
	}
	f := &s.Fields[r.Intn(len(s.Fields))]
	other := s.Fields[r.Intn(len(s.Fields))]
	switch r.Intn(9) {
	case 0:
		s.Name = pick(r, noNames...)
	case 1:
		s.Fields = append(s.Fields, countedFields(pick(r, 1, 20-len(s.Fields), 21-len(s.Fields), 30))...)
	case 2:
		s.Fields = nil
	case 3:
		f.Name = pick(r, append(slices.Clone(noNames), other.Name, strings.Join(other.Was, ""))...)
	case 4:
		f.Kind = pick(r, -1, 0, 1, 4, 5, math.MaxInt)
	case 5:
		f.Was = append(f.Was, pick(r, append(slices.Clone(noNames), other.Name, strings.Join(other.Was, ""), "new")...))
	case 6:
		f.Was = append(f.Was, countedNames("y", pick(r, 1, 4-min(len(f.Was), 4), 5-len(f.Was)))...)
	case 7:
		f.Value = spoilValue(r, f.Value)
	default:
		f.Fixed = !f.Fixed
	}
	return s
}

func TestSchemaOkIsAsTold(t *testing.T) {
	r := rand.New(rand.NewSource(147))
	good, bad := 0, 0
	for range 10000 {
		s := someSchema(r)
		if !schemaOkAsTold(s) {
			t.Fatalf("%+v is to be right", s)
		}
		if r.Intn(2) == 0 {
			s = spoilSchema(r, s)
		}
		want := schemaOkAsTold(s)
		if impl.SchemaOk(s) != want {
			t.Fatalf("%+v: not %v", s, want)
		}
		if want {
			good++
		} else {
			bad++
		}
	}
	if good < 4000 || bad < 3000 {
		t.Error("the schemas to try are too much alike:", good, bad)
	}
}
