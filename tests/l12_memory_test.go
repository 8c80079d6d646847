package tests

import (
	"math/rand"
	"reflect"
	"slices"
	"strings"
	"testing"

	"loop.example/g00035/impl"
)

var (
	itemBehind    = impl.Item{Num: -7, Text: "behind"}
	fieldBehind   = impl.Field{Name: "behind", Kind: -7}
	schemaBehind  = impl.Schema{Name: "behind"}
	subjectBehind = impl.Subject{Name: "behind", Mode: -7}
)

func roomyValue(v impl.Value) impl.Value {
	v.Items = withRoom(v.Items, itemBehind)
	return v
}

// roomySchema is a copy of a schema all of whose lists have spare room behind them, filled with what must stay.
func roomySchema(s impl.Schema) impl.Schema {
	s = plainSchema(s)
	for i, f := range s.Fields {
		s.Fields[i].Was, s.Fields[i].Value = withRoom(f.Was, "behind"), roomyValue(f.Value)
	}
	s.Fields = withRoom(s.Fields, fieldBehind)
	return s
}

// wholeSchema tells a schema with all that stands in the room behind its lists.
func wholeSchema(s impl.Schema) impl.Schema {
	s.Fields = withAllRoom(s.Fields)
	for i, f := range s.Fields {
		s.Fields[i].Was, s.Fields[i].Value.Items = withAllRoom(f.Was), withAllRoom(f.Value.Items)
	}
	return s
}

func roomySchemas(list []impl.Schema) []impl.Schema {
	out := []impl.Schema{}
	for _, s := range list {
		out = append(out, roomySchema(s))
	}
	return withRoom(out, schemaBehind)
}

func wholeSchemas(list []impl.Schema) []impl.Schema {
	list = withAllRoom(list)
	for i, s := range list {
		list[i] = wholeSchema(s)
	}
	return list
}

func roomyRegistry(g impl.Registry) impl.Registry {
	g = plainRegistry(g)
	for i, x := range g.Subjects {
		g.Subjects[i].Versions = withRoom(x.Versions, -7)
	}
	return impl.Registry{Schemas: roomySchemas(g.Schemas), Subjects: withRoom(g.Subjects, subjectBehind)}
}

func wholeRegistry(g impl.Registry) impl.Registry {
	g.Schemas, g.Subjects = wholeSchemas(g.Schemas), withAllRoom(g.Subjects)
	for i, x := range g.Subjects {
		g.Subjects[i].Versions = withAllRoom(x.Versions)
	}
	return g
}

// schemasToTry are a registry, and something to register there; some are not right.
func schemasToTry(r *rand.Rand) (impl.Registry, string, int, impl.Schema) {
	g := randomRegistry(r)
	subject, mode, s := registerSome(r, g)
	if r.Intn(8) == 0 {
		g = spoilRegistry(r, g)
	}
	return roomyRegistry(g), subject, mode, roomySchema(s)
}

func TestSchemasLeaveArgumentsAlone(t *testing.T) {
	r := rand.New(rand.NewSource(154))
	for range 1500 {
		g, subject, mode, s := schemasToTry(r)
		f := randomField(r, "f")
		v := roomyValue(randomValue(r, f))
		asG, asS, asV := wholeRegistry(g), wholeSchema(s), withAllRoom(v.Items)
		impl.RegistryOk(g)
		impl.Register(g, subject, mode, s)
		impl.Fits(mode, g.Schemas, s)
		impl.SchemaOk(s)
		impl.ShowSchema(s)
		for _, other := range g.Schemas {
			impl.Matches(other, s)
			impl.CanRead(s, other)
		}
		impl.ValueOk(v)
		impl.ValueOf(f, v)
		impl.ShowValue(v)
		if !reflect.DeepEqual(wholeRegistry(g), asG) || !reflect.DeepEqual(wholeSchema(s), asS) || !slices.Equal(withAllRoom(v.Items), asV) {
			t.Fatalf("an argument was changed: %+v %+v %+v", asG, asS, asV)
		}
	}
}

// What lies behind a list's length is not looked at.
func TestSchemasLookNotBehindTheLength(t *testing.T) {
	r := rand.New(rand.NewSource(155))
	for range 1500 {
		g, subject, mode, s := schemasToTry(r)
		bareG, bareS := plainRegistry(g), plainSchema(s)
		if impl.SchemaOk(s) != impl.SchemaOk(bareS) || impl.ShowSchema(s) != impl.ShowSchema(bareS) || impl.RegistryOk(g) != impl.RegistryOk(bareG) || impl.Fits(mode, g.Schemas, s) != impl.Fits(mode, bareG.Schemas, bareS) {
			t.Fatalf("another answer with room: %+v %+v", bareG, bareS)
		}
		for i, other := range g.Schemas {
			if !slices.Equal(impl.Matches(other, s), impl.Matches(bareG.Schemas[i], bareS)) || impl.CanRead(s, other) != impl.CanRead(bareS, bareG.Schemas[i]) {
				t.Fatalf("another answer with room: %+v %+v", bareG.Schemas[i], bareS)
			}
		}
		want, wantId, wantCode := impl.Register(bareG, subject, mode, bareS)
		if got, id, code := impl.Register(g, subject, mode, s); id != wantId || code != wantCode || !sameRegistry(got, want) {
			t.Fatalf("with room: %+v, %d, %d, without: %+v, %d, %d", got, id, code, want, wantId, wantCode)
		}
	}
}

func TestSchemasAnswersAreNewMemory(t *testing.T) {
	r := rand.New(rand.NewSource(156))
	codes := map[int]int{}
	for range 1500 {
		g, subject, mode, s := schemasToTry(r)
		next, _, code := impl.Register(g, subject, mode, s)
		codes[code]++
		mustBeNew(t, "Register", next, g, s)
		again, _, _ := impl.Register(next, subject, mode, s)
		mustBeNew(t, "Register again", again, next, g, s)
		text := showSchemaAsTold(plainSchema(s))
		one, _ := impl.ParseSchema(text)
		other, line := impl.ParseSchema(text)
		mustBeNew(t, "ParseSchema", one, other)
		for i := range one.Fields {
			overwriteField(&one.Fields[i])
		}
		_ = append(one.Fields, fieldBehind)
		if last, same := impl.ParseSchema(text); same != line || !sameSchema(last, other) {
			t.Fatalf("%q: %+v, and before that %+v", text, last, other)
		}
	}
	if codes[impl.RegOk] < 200 || codes[impl.RegBad] < 50 || codes[impl.RegUnfit] < 100 {
		t.Error("what is registered is too much alike:", codes)
	}
}

func overwriteField(f *impl.Field) {
	for i := range f.Was {
		f.Was[i] = "behind"
	}
	for i := range f.Value.Items {
		f.Value.Items[i] = itemBehind
	}
	_, _ = append(f.Was, "behind"), append(f.Value.Items, itemBehind)
	*f = fieldBehind
}

// What is done to a registry that was answered is not to be seen in the one that it came from, nor the other way round.
func TestRegistriesShareNothing(t *testing.T) {
	s, g := user(), plainRegistry(shelf())
	next, _, _ := impl.Register(g, "post", 0, s)
	want := plainRegistry(next)
	for i := range s.Fields {
		overwriteField(&s.Fields[i])
	}
	for i := range g.Schemas {
		overwriteField(&g.Schemas[i].Fields[0])
		g.Schemas[i].Name = "behind"
	}
	for i := range g.Subjects {
		for j := range g.Subjects[i].Versions {
			g.Subjects[i].Versions[j] = -7
		}
		g.Subjects[i].Name = "behind"
	}
	if !sameRegistry(next, want) {
		t.Errorf("%+v, and before that %+v", next, want)
	}
}

// Nothing stays from what was refused, or from what was done.
func TestSchemasKeepNothing(t *testing.T) {
	for range 3 {
		mustBeNoSchema(t, "a name that stood ahead", "record r\na int\na int\n", 3)
		mustTellSchema(t, "it stands once", looks("record r", "a int"), "record r\na int\n")
		mustBeNoSchema(t, "too many", "record r\n"+strings.Repeat("a int\n", 25), 3)
		mustTellSchema(t, "one of each", user(), usersText)
		mustHaveNoText(t, "no field", impl.Schema{Name: "r"})
		mustMatch(t, "its own", user(), user(), 0, 1, 2, 3)
		mustNotRegister(t, "one that does not fit", shelf(), "mail", 0, looks("record r", "x int"), impl.RegUnfit)
		mustRegister(t, "one that fits", shelf(), "news", 0, user(), 4, shelved(moreSchemas(user()), versionsAt(1, 4)))
		mustRegister(t, "the first", impl.Registry{}, "news", 1, user(), 1, impl.Registry{Schemas: []impl.Schema{user()}, Subjects: []impl.Subject{{Name: "news", Mode: 1, Versions: []int{1}}}})
	}
}
