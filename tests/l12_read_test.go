package tests

import (
	"fmt"
	"math"
	"math/rand"
	"slices"
	"testing"

	"loop.example/g00035/impl"
)

func matchesAsTold(reader impl.Schema, writer impl.Schema) []int {
	list := []int{}
	if !schemaOkAsTold(reader) || !schemaOkAsTold(writer) {
		return list
	}
	for _, f := range reader.Fields {
		place := -1
		// The names that it had from the last on, so that what comes later counts more.
		for _, name := range append(reversed(f.Was), f.Name) {
			for i, written := range writer.Fields {
				if written.Name == name {
					place = i
				}
			}
		}
		list = append(list, place)
	}
	return list
}

func reversed(list []string) []string {
	list = slices.Clone(list)
	slices.Reverse(list)
	return list
}

func canReadAsTold(reader impl.Schema, writer impl.Schema) bool {
	ok := schemaOkAsTold(reader) && schemaOkAsTold(writer) && reader.Name == writer.Name
	times := map[int]int{}
	for i, place := range matchesAsTold(reader, writer) {
		f := reader.Fields[i]
		if place < 0 {
			ok = ok && (f.Fixed || f.Maybe)
			continue
		}
		times[place]++
		w := writer.Fields[place]
		ok = ok && times[place] == 1 && f.List == w.List && (f.Kind == w.Kind || f.Kind == 3 && w.Kind == 2) && (f.Maybe || !w.Maybe)
	}
	return ok
}

func modeOkAsTold(mode int) bool {
	return slices.Contains([]int{0, 1, 2, 4, 8, 9, 10, 12}, mode)
}

func fitsAsTold(mode int, old []impl.Schema, s impl.Schema) bool {
	ok := modeOkAsTold(mode) && len(old) <= 20 && schemaOkAsTold(s)
	for i, other := range old {
		ok = ok && schemaOkAsTold(other)
		if mode < 8 && i < len(old)-1 {
			continue
		}
		switch mode % 8 {
		case 1:
			ok = ok && canReadAsTold(s, other)
		case 2:
			ok = ok && canReadAsTold(other, s)
		case 4:
			ok = ok && canReadAsTold(s, other) && canReadAsTold(other, s)
		}
	}
	return ok
}

func mustMatch(t *testing.T, name string, reader impl.Schema, writer impl.Schema, want ...int) {
	t.Helper()
	if got := impl.Matches(reader, writer); !slices.Equal(got, want) {
		t.Errorf("%s: %v, not %v", name, got, want)
	}
	if told := matchesAsTold(reader, writer); !slices.Equal(told, want) {
		t.Errorf("%s, as told: %v", name, told)
	}
}

func mustCanRead(t *testing.T, name string, reader impl.Schema, writer impl.Schema, want bool) {
	t.Helper()
	if impl.CanRead(reader, writer) != want {
		t.Errorf("%s: not %v", name, want)
	}
	if canReadAsTold(reader, writer) != want {
		t.Errorf("%s, as told: not %v", name, want)
	}
}

func mustFit(t *testing.T, name string, mode int, old []impl.Schema, s impl.Schema, want bool) {
	t.Helper()
	if impl.Fits(mode, old, s) != want {
		t.Errorf("%s, mode %d: not %v", name, mode, want)
	}
	if fitsAsTold(mode, old, s) != want {
		t.Errorf("%s, mode %d, as told: not %v", name, mode, want)
	}
}

func TestMatches(t *testing.T) {
	writer := looks("record r", "a int", "b int", "c int was x,y")
	mustMatch(t, "by their names", looks("record r", "a int", "b int", "c int"), writer, 0, 1, 2)
	mustMatch(t, "in another order", looks("record r", "c int", "a int", "b int"), writer, 2, 0, 1)
	mustMatch(t, "some of them", looks("record r", "b int"), writer, 1)
	mustMatch(t, "by none", looks("record r", "d int"), writer, -1)
	mustMatch(t, "by none of what it had", looks("record r", "d int was e,f,g,h"), writer, -1)
	mustMatch(t, "by the first that it had", looks("record r", "d int was b,e"), writer, 1)
	mustMatch(t, "by a later one that it had", looks("record r", "d int was e,f,b"), writer, 1)
	mustMatch(t, "by the last one that it had", looks("record r", "d int was e,f,g,c"), writer, 2)
	mustMatch(t, "by the first of two that are there", looks("record r", "d int was e,c,a"), writer, 2)
	mustMatch(t, "by its name, though what it had is there", looks("record r", "b int was a,c"), writer, 1)
	mustMatch(t, "by its name, though what it had is ahead", looks("record r", "c int was a"), writer, 2)
	mustMatch(t, "not by what the writer had", looks("record r", "x int", "z int maybe was y"), writer, -1, -1)
	mustMatch(t, "by names alone", looks("record q", "a text list maybe", "b flag = no", "d small"), writer, 0, 1, -1)
	mustMatch(t, "letters of another size", looks("record r", "A int", "B int was C"), writer, -1, -1)
	most := impl.Schema{Name: "r", Fields: countedFields(20)}
	mustMatch(t, "as many as may be", most, most, numbersFrom(0, 19)...)
	mustMatch(t, "more than were written", most, impl.Schema{Name: "r", Fields: countedFields(1)}, append([]int{0}, slices.Repeat([]int{-1}, 19)...)...)
}

// Two fields that would read the same have a name in common, and so are of no schema that is right.
func twins() map[string]impl.Schema {
	return map[string]impl.Schema{
		"by a name and one that was": {Name: "r", Fields: []impl.Field{{Name: "a", Kind: 3}, {Name: "d", Kind: 3, Was: []string{"a"}}}},
		"by names that were":         {Name: "r", Fields: []impl.Field{{Name: "d", Kind: 3, Was: []string{"a"}}, {Name: "e", Kind: 3, Was: []string{"x", "a"}}}},
		"by names":                   {Name: "r", Fields: []impl.Field{{Name: "a", Kind: 3}, {Name: "a", Kind: 3}}},
	}
}

func TestSchemasThatAreNotRightMatchNothing(t *testing.T) {
	good := looks("record r", "a int", "b int maybe")
	bad := badSchemas()
	for name, s := range twins() {
		bad["two that read the same, "+name] = s
	}
	for name, s := range bad {
		mustMatch(t, name+", reading", s, good)
		mustMatch(t, name+", read", good, s)
		mustMatch(t, name+", by itself", s, s)
		mustCanRead(t, name+", reading", s, good, false)
		mustCanRead(t, name+", read", good, s, false)
		mustCanRead(t, name+", by itself", s, s, false)
	}
	for name, s := range goodSchemas() {
		mustMatch(t, name+", by itself", s, s, numbersFrom(0, len(s.Fields)-1)...)
		mustCanRead(t, name+", by itself", s, s, true)
	}
}

func TestCanRead(t *testing.T) {
	writer := looks("record r", "a int", "b text maybe", "c small list")
	for name, reader := range map[string]impl.Schema{
		"the same":                         writer,
		"in another order":                 looks("record r", "c small list", "b text maybe", "a int"),
		"less of it":                       looks("record r", "c small list"),
		"one more that is Fixed":           looks("record r", "a int", "d int = 1"),
		"one more that may be missing":     looks("record r", "a int", "d int maybe"),
		"one more that is both":            looks("record r", "d int maybe = 1"),
		"one more that is Fixed, missing":  looks("record r", "d int maybe = -"),
		"by a name that it had":            looks("record r", "x int was y,a"),
		"a list of a greater kind":         looks("record r", "c int list"),
		"where it may be missing":          looks("record r", "a int maybe", "c small list maybe"),
		"Fixed where it is read":           looks("record r", "a int = 7", "b text maybe = \"x\""),
		"none of it":                       looks("record r", "d int maybe", "e flag = no"),
		"by its name, the other is unlike": looks("record r", "a int was b"),
	} {
		mustCanRead(t, name, reader, writer, true)
	}
	for name, reader := range map[string]impl.Schema{
		"another name":                               looks("record q", "a int"),
		"a name of another size":                     looks("record R", "a int"),
		"one more that must be there":                looks("record r", "a int", "d int"),
		"one more ahead that must be there":          looks("record r", "d int", "a int"),
		"a lesser kind":                              looks("record r", "a small"),
		"another kind":                               looks("record r", "a text"),
		"a list where there is none":                 looks("record r", "a int list"),
		"none where there is a list":                 looks("record r", "c small"),
		"what may be missing":                        looks("record r", "b text"),
		"what may be missing, though it is Fixed":    looks("record r", "b text = \"x\""),
		"another kind, though Fixed and Maybe":       looks("record r", "a flag maybe = no"),
		"a list, though Fixed and Maybe":             looks("record r", "a int list maybe = []"),
		"by a name that it had, of another kind":     looks("record r", "x flag was a"),
		"by the first that it had, though one fits":  looks("record r", "x small list was a,c"),
		"by its name, though one that it had fits":   looks("record r", "a text maybe was b"),
		"by a name that the writer had, not the one": looks("record r", "old int"),
	} {
		mustCanRead(t, name, reader, writer, false)
	}
	mustCanRead(t, "a name that the writer's field had", looks("record r", "old int"), looks("record r", "new int was old"), false)
	mustCanRead(t, "that the reader's had", looks("record r", "new int was old"), looks("record r", "old int"), true)
	mustCanRead(t, "the last of many", impl.Schema{Name: "r", Fields: append(countedFields(19), impl.Field{Name: "x", Kind: 1})}, impl.Schema{Name: "r", Fields: countedFields(20)}, false)
}

// Each pair of kinds, lists and what may be missing, and each way to be there without a writer's field.
func TestCanReadOfEachPair(t *testing.T) {
	for i := range 16 * 16 {
		reader := impl.Field{Name: "a", Kind: 1 + i%4, List: i/4%2 == 1, Maybe: i/8%2 == 1}
		writer := impl.Field{Name: "a", Kind: 1 + i/16%4, List: i/64%2 == 1, Maybe: i/128%2 == 1}
		want := reader.List == writer.List && (reader.Kind == writer.Kind || reader.Kind == impl.KindInt && writer.Kind == impl.KindSmall) && (reader.Maybe || !writer.Maybe)
		name := fmt.Sprintf("%+v of %+v", reader, writer)
		mustCanRead(t, name, impl.Schema{Name: "r", Fields: []impl.Field{reader}}, impl.Schema{Name: "r", Fields: []impl.Field{writer}}, want)
		reader.Name, reader.Was = "b", []string{"x", "a"}
		mustCanRead(t, name+", by a name that it had", impl.Schema{Name: "r", Fields: []impl.Field{reader}}, impl.Schema{Name: "r", Fields: []impl.Field{writer}}, want)
	}
	for i := range 4 {
		f := impl.Field{Name: "b", Kind: impl.KindFlag, Maybe: i%2 == 1, Fixed: i/2 == 1}
		if f.Fixed {
			f.Value = flag(1)
		}
		mustCanRead(t, fmt.Sprintf("%+v reads none", f), impl.Schema{Name: "r", Fields: []impl.Field{f}}, looks("record r", "a flag"), i > 0)
	}
}

// A line of schemas: each of them can read, or be read by, only some of the others.
var (
	firstLook  = looks("record r", "a small")
	secondLook = looks("record r", "a int", "b text = \"\"")
	thirdLook  = looks("record r", "b text = \"\"", "c flag maybe")
	fourthLook = looks("record r", "c flag maybe", "a int = 5")
)

func TestFits(t *testing.T) {
	for mode := -1; mode <= 13; mode++ {
		one := slices.Contains([]int{0, 1, 2, 4, 8, 9, 10, 12}, mode)
		mustFit(t, "none ahead", mode, nil, firstLook, one)
		mustFit(t, "none ahead", mode, []impl.Schema{}, firstLook, one)
		mustFit(t, "the same ahead", mode, []impl.Schema{firstLook}, firstLook, one)
		free := mode == 0 || mode == 8
		mustFit(t, "it reads the one ahead", mode, []impl.Schema{firstLook}, secondLook, free || mode == 1 || mode == 9)
		mustFit(t, "the one ahead reads it", mode, []impl.Schema{secondLook}, firstLook, free || mode == 2 || mode == 10)
		mustFit(t, "both read each other", mode, []impl.Schema{thirdLook}, fourthLook, one)
		mustFit(t, "neither reads the other", mode, []impl.Schema{firstLook}, looks("record r", "a text"), free)
		mustFit(t, "records of another name", mode, []impl.Schema{firstLook}, looks("record q", "a small"), free)
		mustFit(t, "the last alone is read", mode, []impl.Schema{looks("record q", "a small"), looks("record r", "a flag"), firstLook}, secondLook, free || mode == 1)
		mustFit(t, "the last alone reads", mode, []impl.Schema{looks("record q", "a small"), looks("record r", "a flag"), secondLook}, firstLook, free || mode == 2)
		mustFit(t, "the last alone does both", mode, []impl.Schema{looks("record r", "a flag"), thirdLook}, fourthLook, mode < 8 && one || free)
		mustFit(t, "an elder one alone is not read", mode, []impl.Schema{firstLook, looks("record r", "a text"), firstLook}, secondLook, free || mode == 1)
		mustFit(t, "an elder one alone does not read", mode, []impl.Schema{looks("record r", "z flag"), secondLook, secondLook}, firstLook, free || mode == 2)
		mustFit(t, "the last alone is not read", mode, []impl.Schema{firstLook, firstLook, looks("record r", "a text")}, secondLook, free)
		mustFit(t, "all of them are read", mode, []impl.Schema{firstLook, looks("record r", "a int"), firstLook}, secondLook, free || mode == 1 || mode == 9)
		mustFit(t, "all of them read", mode, []impl.Schema{secondLook, looks("record r", "a int"), secondLook}, firstLook, free || mode == 2 || mode == 10)
		mustFit(t, "all are read, the last alone reads", mode, []impl.Schema{firstLook, secondLook}, looks("record r", "a int"), one && mode != 10 && mode != 12)
	}
	for _, mode := range []int{math.MinInt, -8, -4, -2, -1, 3, 5, 6, 7, 11, 13, 14, 15, 16, 17, 24, 32, math.MaxInt} {
		mustFit(t, "no mode", mode, nil, firstLook, false)
		mustFit(t, "no mode, the same ahead", mode, []impl.Schema{firstLook}, firstLook, false)
	}
}

func TestFitsAtTheLimits(t *testing.T) {
	for _, mode := range []int{0, 1, 2, 4, 8, 9, 10, 12} {
		mustFit(t, "as many as may be", mode, slices.Repeat([]impl.Schema{firstLook}, 20), firstLook, true)
		mustFit(t, "one fewer", mode, slices.Repeat([]impl.Schema{firstLook}, 19), firstLook, true)
		mustFit(t, "one more", mode, slices.Repeat([]impl.Schema{firstLook}, 21), firstLook, false)
		mustFit(t, "many more", mode, slices.Repeat([]impl.Schema{firstLook}, 5000), firstLook, false)
		for name, s := range badSchemas() {
			mustFit(t, name+", with none ahead", mode, nil, s, false)
			mustFit(t, name+", with one ahead", mode, []impl.Schema{user()}, s, false)
			mustFit(t, name+", ahead", mode, []impl.Schema{s}, user(), false)
			mustFit(t, name+", far ahead", mode, []impl.Schema{s, user(), user()}, user(), false)
		}
	}
}

// nextLook is a schema that may come behind another one: some of its fields are other ones, gone or new.
func nextLook(r *rand.Rand, s impl.Schema) impl.Schema {
	s = plainSchema(s)
	for range 1 + r.Intn(2) {
		if len(s.Fields) == 0 {
			return someSchema(r)
		}
		at := r.Intn(len(s.Fields))
		f := &s.Fields[at]
		switch r.Intn(8) {
		case 0:
			if len(s.Fields) > 1 {
				s.Fields = slices.Delete(s.Fields, at, at+1)
			}
		case 1, 2:
			more := randomField(r, pick(r, schemaNames...))
			if more.Fixed = r.Intn(3) > 0; more.Fixed {
				more.Value = randomValue(r, more)
			}
			s.Fields = slices.Insert(s.Fields, r.Intn(len(s.Fields)+1), more)
		case 3:
			f.Was = append([]string{f.Name}, f.Was...)
			f.Name = pick(r, schemaNames...)
		case 4:
			if f.Kind == impl.KindSmall {
				f.Kind, f.Fixed, f.Value = impl.KindInt, false, impl.Value{}
			}
		case 5:
			f.Maybe = !f.Maybe
		case 6:
			if f.Fixed = !f.Fixed; f.Fixed {
				f.Value = randomValue(r, *f)
			} else {
				f.Value = impl.Value{}
			}
		default:
			other := r.Intn(len(s.Fields))
			s.Fields[at], s.Fields[other] = s.Fields[other], s.Fields[at]
		}
	}
	return s
}

// rightLook is a nextLook that is right.
func rightLook(r *rand.Rand, s impl.Schema) impl.Schema {
	for range 20 {
		if next := nextLook(r, s); schemaOkAsTold(next) {
			return next
		}
	}
	return s
}

func TestReadingIsAsTold(t *testing.T) {
	r := rand.New(rand.NewSource(150))
	can, not, wrong := 0, 0, 0
	for range 20000 {
		writer := someSchema(r)
		reader := pick(r, nextLook, rightLook)(r, writer)
		if r.Intn(4) == 0 {
			reader = someSchema(r)
		}
		if r.Intn(2) == 0 {
			reader, writer = writer, reader
		}
		got, want := impl.Matches(reader, writer), matchesAsTold(reader, writer)
		if !slices.Equal(got, want) {
			t.Fatalf("%+v of %+v: %v, not %v", reader, writer, got, want)
		}
		ok := canReadAsTold(reader, writer)
		if impl.CanRead(reader, writer) != ok {
			t.Fatalf("%+v of %+v: not %v", reader, writer, ok)
		}
		read := slices.DeleteFunc(slices.Clone(got), func(place int) bool { return place < 0 })
		slices.Sort(read)
		if len(slices.Compact(slices.Clone(read))) != len(read) {
			t.Fatalf("%+v of %+v: two read the same: %v", reader, writer, got)
		}
		switch {
		case ok:
			can++
		case len(want) > 0:
			not++
		default:
			wrong++
		}
	}
	if can < 4000 || not < 4000 || wrong < 1000 {
		t.Error("the schemas to try are too much alike:", can, not, wrong)
	}
}

func TestFitsIsAsTold(t *testing.T) {
	r := rand.New(rand.NewSource(151))
	fit, not := 0, 0
	for range 10000 {
		s := someSchema(r)
		old := []impl.Schema{}
		for range r.Intn(5) {
			old = append(old, s)
			s = rightLook(r, s)
		}
		if r.Intn(10) == 0 {
			s = spoilSchema(r, s)
		}
		if len(old) > 0 && r.Intn(10) == 0 {
			at := r.Intn(len(old))
			old[at] = spoilSchema(r, old[at])
		}
		mode := pick(r, 0, 1, 2, 4, 8, 9, 10, 12, 1, 2, 4, 9, 10, 12, pick(r, -1, 3, 5, 6, 7, 11, 13, 16))
		want := fitsAsTold(mode, old, s)
		if impl.Fits(mode, old, s) != want {
			t.Fatalf("mode %d, %+v behind %+v: not %v", mode, s, old, want)
		}
		if want {
			fit++
		} else {
			not++
		}
	}
	if fit < 3000 || not < 3000 {
		t.Error("the schemas to try are too much alike:", fit, not)
	}
}
