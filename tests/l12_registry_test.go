package tests

import (
	"fmt"
	"math"
	"math/rand"
	"reflect"
	"slices"
	"strings"
	"testing"

	"loop.example/g00035/impl"
)

// plainRegistry is a copy that is compared as a whole: no empty list is in it.
func plainRegistry(g impl.Registry) impl.Registry {
	g.Schemas = append([]impl.Schema(nil), g.Schemas...)
	for i, s := range g.Schemas {
		g.Schemas[i] = plainSchema(s)
	}
	g.Subjects = append([]impl.Subject(nil), g.Subjects...)
	for i, x := range g.Subjects {
		g.Subjects[i].Versions = append([]int(nil), x.Versions...)
	}
	return g
}

func sameRegistry(a impl.Registry, b impl.Registry) bool {
	return reflect.DeepEqual(plainRegistry(a), plainRegistry(b))
}

// versionsOf are the schemas of the first count versions of a subject.
func versionsOf(g impl.Registry, x impl.Subject, count int) []impl.Schema {
	list := []impl.Schema{}
	for _, id := range x.Versions[:count] {
		list = append(list, g.Schemas[id-1])
	}
	return list
}

func registryOkAsTold(g impl.Registry) bool {
	for i, s := range g.Schemas {
		if !schemaOkAsTold(s) {
			return false
		}
		for _, other := range g.Schemas[:i] {
			if sameSchema(s, other) {
				return false
			}
		}
	}
	held := map[int]bool{}
	for i, x := range g.Subjects {
		if !nameForm.MatchString(x.Name) || i > 0 && g.Subjects[i-1].Name >= x.Name || !modeOkAsTold(x.Mode) || len(x.Versions) > 20 {
			return false
		}
		for at, id := range x.Versions {
			if !inBounds(id, 1, len(g.Schemas)) || slices.Contains(x.Versions[:at], id) {
				return false
			}
			held[id] = true
			if !fitsAsTold(x.Mode, versionsOf(g, x, at), g.Schemas[id-1]) {
				return false
			}
		}
	}
	return len(g.Subjects) <= 20 && len(held) == len(g.Schemas)
}

func registerAsTold(g impl.Registry, subject string, mode int, s impl.Schema) (impl.Registry, int, int) {
	if !registryOkAsTold(g) {
		return impl.Registry{}, 0, impl.RegBad
	}
	next := plainRegistry(g)
	at := slices.IndexFunc(g.Subjects, func(x impl.Subject) bool { return x.Name == subject })
	if !schemaOkAsTold(s) || !nameForm.MatchString(subject) || at < 0 && !modeOkAsTold(mode) {
		return g, 0, impl.RegBad
	}
	id := 1 + slices.IndexFunc(g.Schemas, func(other impl.Schema) bool { return sameSchema(s, other) })
	if at >= 0 {
		x := g.Subjects[at]
		if slices.Contains(x.Versions, id) {
			return g, id, impl.RegOk
		}
		if !fitsAsTold(x.Mode, versionsOf(g, x, len(x.Versions)), s) {
			return g, 0, impl.RegUnfit
		}
	}
	if at >= 0 && len(g.Subjects[at].Versions) == 20 || at < 0 && len(g.Subjects) == 20 {
		return g, 0, impl.RegFull
	}
	if id == 0 {
		next.Schemas = append(next.Schemas, plainSchema(s))
		id = len(next.Schemas)
	}
	if at < 0 {
		next.Subjects = append(next.Subjects, impl.Subject{Name: subject, Mode: mode})
		slices.SortFunc(next.Subjects, func(a, b impl.Subject) int { return strings.Compare(a.Name, b.Name) })
	}
	for i := range next.Subjects {
		if next.Subjects[i].Name == subject {
			next.Subjects[i].Versions = append(next.Subjects[i].Versions, id)
		}
	}
	return next, id, impl.RegOk
}

// mustRegister tells the registry behind it, which is right.
func mustRegister(t *testing.T, name string, g impl.Registry, subject string, mode int, s impl.Schema, wantId int, want impl.Registry) impl.Registry {
	t.Helper()
	next, id, code := impl.Register(g, subject, mode, s)
	if code != impl.RegOk || id != wantId || !sameRegistry(next, want) || !impl.RegistryOk(next) {
		t.Errorf("%s: %+v, %d, %d, not %+v, %d", name, next, id, code, want, wantId)
	}
	told, id, code := registerAsTold(g, subject, mode, s)
	if code != impl.RegOk || id != wantId || !sameRegistry(told, want) {
		t.Errorf("%s, as told: %+v, %d, %d", name, told, id, code)
	}
	return next
}

// mustNotRegister: it is refused by that code, and the registry is as it was.
func mustNotRegister(t *testing.T, name string, g impl.Registry, subject string, mode int, s impl.Schema, want int) {
	t.Helper()
	next, id, code := impl.Register(g, subject, mode, s)
	if code != want || id != 0 || !sameRegistry(next, g) {
		t.Errorf("%s: %+v, %d, %d, not %d", name, next, id, code, want)
	}
	if _, id, code := registerAsTold(g, subject, mode, s); id != 0 || code != want {
		t.Errorf("%s, as told: %d, %d", name, id, code)
	}
}

// shelf has three subjects: one that reads what is older, one with no versions and one that asks nothing.
func shelf() impl.Registry {
	return impl.Registry{
		Schemas: []impl.Schema{firstLook, secondLook, looks("record q", "z flag")},
		Subjects: []impl.Subject{
			{Name: "mail", Mode: impl.Backward, Versions: []int{1, 2}},
			{Name: "news", Mode: impl.Full + impl.Always},
			{Name: "post", Versions: []int{3, 1}},
		},
	}
}

type registryChange func(g *impl.Registry)

func shelved(changes ...registryChange) impl.Registry {
	g := plainRegistry(shelf())
	for _, do := range changes {
		do(&g)
	}
	return g
}

func subjectAt(at int, do func(x *impl.Subject)) registryChange {
	return func(g *impl.Registry) { do(&g.Subjects[at]) }
}

func modeAt(at int, mode int) registryChange {
	return subjectAt(at, func(x *impl.Subject) { x.Mode = mode })
}

func versionsAt(at int, ids ...int) registryChange {
	return subjectAt(at, func(x *impl.Subject) { x.Versions = ids })
}

func subjectIs(at int, name string) registryChange {
	return subjectAt(at, func(x *impl.Subject) { x.Name = name })
}

func schemaAt(at int, s impl.Schema) registryChange {
	return func(g *impl.Registry) { g.Schemas[at] = s }
}

func moreSchemas(list ...impl.Schema) registryChange {
	return func(g *impl.Registry) { g.Schemas = append(g.Schemas, list...) }
}

func subjectsAre(list ...impl.Subject) registryChange {
	return func(g *impl.Registry) { g.Subjects = list }
}

// looksOf are so many schemas that can all read each other, with unlike values.
func looksOf(count int) []impl.Schema {
	list := []impl.Schema{}
	for n := range count {
		list = append(list, looks("record r", fmt.Sprintf("a int = %d", n)))
	}
	return list
}

// fullRegistry has that many subjects with that many versions each, every schema in one of them.
func fullRegistry(subjects int, versions int, mode int) impl.Registry {
	g := impl.Registry{Schemas: looksOf(subjects * versions)}
	for i, name := range countedNames("s", subjects) {
		g.Subjects = append(g.Subjects, impl.Subject{Name: name, Mode: mode, Versions: numbersFrom(i*versions+1, (i+1)*versions)})
	}
	return g
}

// edgeRegistry has as many subjects as may be, the first and the last of them with as many versions as may be.
func edgeRegistry(mode int) impl.Registry {
	g := fullRegistry(20, 1, mode)
	g.Schemas = looksOf(40)
	g.Subjects[0].Versions, g.Subjects[19].Versions = append(numbersFrom(1, 19), 40), numbersFrom(20, 39)
	return g
}

func goodRegistries() map[string]impl.Registry {
	good := map[string]impl.Registry{
		"the zero value":              {},
		"empty lists":                 {Schemas: []impl.Schema{}, Subjects: []impl.Subject{}},
		"as it is":                    shelved(),
		"a subject with no versions":  {Subjects: []impl.Subject{{Name: "a"}}},
		"subjects with none":          {Subjects: []impl.Subject{{Name: "a", Mode: 12}, {Name: "b", Versions: []int{}}}},
		"one of each":                 fullRegistry(1, 1, 0),
		"as many versions as may be":  fullRegistry(1, 20, 12),
		"as many subjects as may be":  fullRegistry(20, 1, 12),
		"as many of both":             fullRegistry(20, 20, 12),
		"a schema in all subjects":    shelved(versionsAt(0, 1), versionsAt(1, 1), versionsAt(2, 1, 2, 3)),
		"an order of its own":         shelved(modeAt(0, 0), versionsAt(0, 2, 1)),
		"a capital ahead":             shelved(subjectIs(0, "Zeta")),
		"a beginning of the next":     shelved(subjectIs(0, "n"), subjectIs(1, "n_"), subjectIs(2, "na")),
		"long names":                  shelved(subjectIs(0, strings.Repeat("a", 19)), subjectIs(1, strings.Repeat("a", 20))),
		"schemas that differ by name": shelved(moreSchemas(looks("record rr", "a small")), versionsAt(2, 3, 1, 4)),
		"by the order of fields":      shelved(moreSchemas(looks("record r", "b text = \"\"", "a int")), versionsAt(2, 3, 1, 4)),
		"by Maybe":                    shelved(moreSchemas(looks("record r", "a small maybe")), versionsAt(2, 3, 1, 4)),
		"by List":                     shelved(moreSchemas(looks("record r", "a small list")), versionsAt(2, 3, 1, 4)),
		"by a kind":                   shelved(moreSchemas(looks("record r", "a int")), versionsAt(2, 3, 1, 4)),
		"by a field's name":           shelved(moreSchemas(looks("record r", "b small")), versionsAt(2, 3, 1, 4)),
		"by a name that was":          shelved(moreSchemas(looks("record r", "a small was b"), looks("record r", "a small was c")), versionsAt(2, 3, 1, 4, 5)),
		"by names that were":          shelved(moreSchemas(looks("record r", "a small was b,c"), looks("record r", "a small was c,b")), versionsAt(2, 3, 1, 4, 5)),
		"by Fixed":                    shelved(moreSchemas(looks("record r", "a small maybe = -"), looks("record r", "a small maybe")), versionsAt(2, 3, 1, 4, 5)),
		"by a value":                  shelved(moreSchemas(looks("record r", "a small = 0"), looks("record r", "a small = 1")), versionsAt(2, 3, 1, 4, 5)),
		"by a text":                   shelved(moreSchemas(looks("record r", `a text = ""`), looks("record r", `a text = " "`)), versionsAt(2, 3, 1, 4, 5)),
		"by an item":                  shelved(moreSchemas(looks("record r", "a int list = [1,2]"), looks("record r", "a int list = [1,3]"), looks("record r", "a int list = [1]"), looks("record r", "a int list maybe = []"), looks("record r", "a int list maybe = -")), versionsAt(2, 3, 1, 4, 5, 6, 7, 8)),
		"by texts of items":           shelved(moreSchemas(looks("record r", `a text list = ["a,","b"]`), looks("record r", `a text list = ["a",",b"]`)), versionsAt(2, 3, 1, 4, 5)),
		"by a field more":             shelved(moreSchemas(looks("record r", "a small", "b small")), versionsAt(2, 3, 1, 4)),
		"without a text":              shelved(moreSchemas(fullest()), versionsAt(2, 3, 1, 4)),
	}
	for _, mode := range []int{0, 1, 2, 4, 8, 9, 10, 12} {
		good[fmt.Sprint("the mode ", mode)] = shelved(modeAt(1, mode))
		good[fmt.Sprint("full of the mode ", mode)] = fullRegistry(3, 20, mode)
	}
	return good
}

func badRegistries() map[string]impl.Registry {
	bad := map[string]impl.Registry{
		"a schema that none has":              shelved(moreSchemas(looks("record r", "x flag"))),
		"schemas without subjects":            {Schemas: []impl.Schema{firstLook}},
		"schemas, subjects without versions":  {Schemas: []impl.Schema{firstLook}, Subjects: []impl.Subject{{Name: "a"}}},
		"an id in the middle that none has":   shelved(modeAt(0, 0), versionsAt(0, 1), versionsAt(2, 3)),
		"a schema twice":                      shelved(moreSchemas(firstLook), versionsAt(2, 3, 1, 4)),
		"a schema twice, in two subjects":     shelved(moreSchemas(plainSchema(secondLook)), versionsAt(1, 4)),
		"the last schema twice":               shelved(moreSchemas(user(), user()), versionsAt(2, 3, 1, 4, 5)),
		"a schema twice, an empty list":       shelved(moreSchemas(altered(wasAt(0)), altered(wasAt(0, []string{}...))), versionsAt(2, 3, 4, 5)),
		"subjects that fall":                  shelved(subjectIs(0, "zeta")),
		"the last two that fall":              shelved(subjectIs(2, "nets")),
		"a beginning behind":                  shelved(subjectIs(2, "new")),
		"a capital behind":                    shelved(subjectIs(2, "Post")),
		"subjects that come twice":            shelved(subjectIs(1, "mail")),
		"one subject more":                    fullRegistry(21, 1, 0),
		"many subjects more":                  fullRegistry(300, 1, 0),
		"one subject more, without versions":  shelved(subjectsAre(append(fullRegistry(20, 0, 0).Subjects, impl.Subject{Name: "z", Versions: []int{1, 2, 3}})...)),
		"one version more":                    fullRegistry(1, 21, 0),
		"many versions more":                  fullRegistry(2, 200, 0),
		"a version of 0":                      shelved(versionsAt(2, 3, 0)),
		"a version of 0 alone":                shelved(versionsAt(1, 0)),
		"a version of 0 in place of another":  shelved(versionsAt(2, 0)),
		"a version beyond in place of it":     shelved(versionsAt(2, 1, 4)),
		"a version below 0":                   shelved(versionsAt(1, -1)),
		"a version beyond":                    shelved(versionsAt(1, 4)),
		"a version far beyond":                shelved(versionsAt(1, math.MaxInt)),
		"the least version":                   shelved(versionsAt(1, math.MinInt)),
		"a version twice":                     shelved(versionsAt(2, 3, 1, 3)),
		"a version twice, side by side":       shelved(versionsAt(2, 3, 1, 1)),
		"a version that does not fit":         shelved(versionsAt(0, 2, 1)),
		"one that reads not the one ahead":    shelved(modeAt(2, impl.Backward)),
		"one that is not read":                shelved(modeAt(0, impl.Forward)),
		"one that is not both":                shelved(modeAt(0, impl.Full)),
		"a middle one that does not fit":      shelved(moreSchemas(looks("record r", "a small", "b text = \"\"")), versionsAt(0, 1, 2, 4), modeAt(2, 0)),
		"one that reads not an elder one":     shelved(modeAt(1, impl.Backward+impl.Always), moreSchemas(looks("record r", "b text"), looks("record r", "a flag maybe", "b text"), looks("record r", "a flag")), versionsAt(1, 4, 5, 6)),
		"one that an elder one does not read": shelved(modeAt(1, impl.Forward+impl.Always), moreSchemas(looks("record r", "a flag"), looks("record r", "b flag = no")), versionsAt(1, 4, 5)),
	}
	for _, name := range noNames {
		bad[fmt.Sprintf("a subject %q", name)] = shelved(subjectsAre(impl.Subject{Name: name, Versions: []int{1, 2, 3}}))
		bad[fmt.Sprintf("a subject %q with no versions", name)] = impl.Registry{Subjects: []impl.Subject{{Name: name}}}
	}
	for _, mode := range []int{math.MinInt, -1, 3, 5, 6, 7, 11, 13, 14, 15, 16, math.MaxInt} {
		bad[fmt.Sprint("the mode ", mode)] = shelved(modeAt(1, mode))
		bad[fmt.Sprint("the last mode ", mode)] = shelved(modeAt(2, mode))
		bad[fmt.Sprint("the mode ", mode, " of one with no versions")] = impl.Registry{Subjects: []impl.Subject{{Name: "a", Mode: mode}}}
	}
	for name, s := range badSchemas() {
		bad["a schema, "+name] = shelved(schemaAt(2, s))
		bad["a schema alone, "+name] = impl.Registry{Schemas: []impl.Schema{s}, Subjects: []impl.Subject{{Name: "a", Versions: []int{1}}}}
	}
	return bad
}

func TestRegistryOk(t *testing.T) {
	for name, g := range goodRegistries() {
		if !impl.RegistryOk(g) || !registryOkAsTold(g) {
			t.Errorf("%s: it is right", name)
		}
	}
	for name, g := range badRegistries() {
		if impl.RegistryOk(g) || registryOkAsTold(g) {
			t.Errorf("%s: it is not right", name)
		}
		for _, s := range []impl.Schema{firstLook, looks("record new", "x int"), {}} {
			next, id, code := impl.Register(g, "mail", impl.Backward, s)
			if code != impl.RegBad || id != 0 || !sameRegistry(next, impl.Registry{}) {
				t.Errorf("%s: %+v, %d, %d", name, next, id, code)
			}
		}
	}
}

func TestRegisterNewSubjects(t *testing.T) {
	newest := looks("record new", "x int")
	g := mustRegister(t, "the first", impl.Registry{}, "mid", impl.Full, newest, 1, impl.Registry{Schemas: []impl.Schema{newest}, Subjects: []impl.Subject{{Name: "mid", Mode: impl.Full, Versions: []int{1}}}})
	one := impl.Subject{Name: "mid", Mode: impl.Full, Versions: []int{1}}
	g = mustRegister(t, "at the front", g, "low", 0, newest, 1, impl.Registry{Schemas: []impl.Schema{newest}, Subjects: []impl.Subject{{Name: "low", Versions: []int{1}}, one}})
	g = mustRegister(t, "at the end", g, "top", impl.Always, firstLook, 2, impl.Registry{Schemas: []impl.Schema{newest, firstLook}, Subjects: []impl.Subject{{Name: "low", Versions: []int{1}}, one, {Name: "top", Mode: impl.Always, Versions: []int{2}}}})
	g = mustRegister(t, "in the middle", g, "mi", 12, secondLook, 3, impl.Registry{Schemas: []impl.Schema{newest, firstLook, secondLook}, Subjects: []impl.Subject{{Name: "low", Versions: []int{1}}, {Name: "mi", Mode: 12, Versions: []int{3}}, one, {Name: "top", Mode: impl.Always, Versions: []int{2}}}})
	mustRegister(t, "a capital", g, "Top", 1, firstLook, 2, impl.Registry{Schemas: g.Schemas, Subjects: append([]impl.Subject{{Name: "Top", Mode: 1, Versions: []int{2}}}, g.Subjects...)})
	for _, mode := range []int{math.MinInt, -1, 0, 1, 2, 3, 4, 5, 6, 7, 8, 9, 10, 11, 12, 13, 16, math.MaxInt} {
		if modeOkAsTold(mode) {
			mustRegister(t, fmt.Sprint("the mode ", mode), shelf(), "a", mode, firstLook, 1, shelved(func(g *impl.Registry) {
				g.Subjects = append([]impl.Subject{{Name: "a", Mode: mode, Versions: []int{1}}}, g.Subjects...)
			}))
		} else {
			mustNotRegister(t, fmt.Sprint("the mode ", mode), shelf(), "a", mode, firstLook, impl.RegBad)
			mustNotRegister(t, fmt.Sprint("the mode ", mode, ", a new schema"), shelf(), "a", mode, newest, impl.RegBad)
		}
	}
}

func TestRegisterNewVersions(t *testing.T) {
	newest := looks("record r", "a int", "c flag = no")
	g := mustRegister(t, "a new schema", shelf(), "mail", 0, newest, 4, shelved(moreSchemas(newest), versionsAt(0, 1, 2, 4)))
	g = mustRegister(t, "one that another subject has", g, "post", 0, newest, 4, shelved(moreSchemas(newest), versionsAt(0, 1, 2, 4), versionsAt(2, 3, 1, 4)))
	mustRegister(t, "to one with no versions", g, "news", 0, newest, 4, shelved(moreSchemas(newest), versionsAt(0, 1, 2, 4), versionsAt(1, 4), versionsAt(2, 3, 1, 4)))
	mustRegister(t, "a new one to it", shelf(), "news", 0, newest, 4, shelved(moreSchemas(newest), versionsAt(1, 4)))
	for _, mode := range []int{math.MinInt, -1, 0, 2, 3, 12, 13, math.MaxInt} {
		mustRegister(t, "a mode that is not looked at", shelf(), "mail", mode, newest, 4, shelved(moreSchemas(newest), versionsAt(0, 1, 2, 4)))
		mustRegister(t, "a mode that is not looked at, one that it has", shelf(), "mail", mode, firstLook, 1, shelf())
		mustNotRegister(t, "a mode that is not looked at, one that does not fit", shelf(), "mail", mode, looks("record r", "x int"), impl.RegUnfit)
	}
	for id, s := range shelf().Schemas {
		mustRegister(t, "one that asks nothing", shelf(), "post", 0, s, id+1, shelved(versionsAt(2, [][]int{{3, 1}, {3, 1, 2}, {3, 1}}[id]...)))
	}
	mustRegister(t, "the newest again", shelf(), "mail", 0, secondLook, 2, shelf())
	mustRegister(t, "an elder one again, that would not fit now", shelf(), "mail", 0, firstLook, 1, shelf())
	mustRegister(t, "one with empty lists", shelf(), "mail", 0, impl.Schema{Name: "r", Fields: []impl.Field{{Name: "a", Kind: 2, Was: []string{}, Value: impl.Value{Items: []impl.Item{}}}}}, 1, shelf())
	mustRegister(t, "one without a text", shelf(), "post", 0, fullest(), 4, shelved(moreSchemas(fullest()), versionsAt(2, 3, 1, 4)))
}

func TestRegisterRefuses(t *testing.T) {
	full := edgeRegistry(12)
	for name, s := range badSchemas() {
		mustNotRegister(t, name+", of a subject", shelf(), "mail", 0, s, impl.RegBad)
		mustNotRegister(t, name+", of a new subject", shelf(), "new", 0, s, impl.RegBad)
		mustNotRegister(t, name+", of the first", impl.Registry{}, "new", 0, s, impl.RegBad)
		mustNotRegister(t, name+", where all is full", full, "s000", 0, s, impl.RegBad)
	}
	for _, name := range noNames {
		mustNotRegister(t, fmt.Sprintf("the subject %q", name), shelf(), name, 0, firstLook, impl.RegBad)
		mustNotRegister(t, fmt.Sprintf("the first subject %q", name), impl.Registry{}, name, 0, firstLook, impl.RegBad)
		mustNotRegister(t, fmt.Sprintf("the subject %q, where all is full", name), full, name, 0, firstLook, impl.RegBad)
	}
	for name, s := range map[string]impl.Schema{
		"another record": looks("record q", "a int"), "another kind": looks("record r", "a text"), "a new one that must be there": looks("record r", "a int", "new int"), "the one that is narrower": looks("record r", "a small", "b text"), "what another subject has": looks("record q", "z flag"),
	} {
		mustNotRegister(t, name, shelf(), "mail", 0, s, impl.RegUnfit)
		mustNotRegister(t, name+", the mode would let it", shelf(), "mail", impl.Always, s, impl.RegUnfit)
	}
}

func TestRegisterByEachMode(t *testing.T) {
	old := []impl.Schema{looks("record r", "x int maybe"), firstLook}
	for _, mode := range []int{0, 1, 2, 4, 8, 9, 10, 12} {
		for name, s := range map[string]impl.Schema{"it reads the last": secondLook, "the last reads it": looks("record r", "a small", "new int"), "both": looks("record r", "a small", "new int = 1"), "neither": looks("record r", "a text"), "all are read": looks("record r", "a int = 1"), "all read it": looks("record r", "a small", "x int"), "all do both": looks("record r", "a small = 1", "x int maybe")} {
			g := impl.Registry{Schemas: old, Subjects: []impl.Subject{{Name: "a", Mode: 0, Versions: []int{1, 2}}}}
			g.Subjects[0].Mode = mode
			if !registryOkAsTold(g) {
				g.Subjects[0].Versions, g.Schemas = []int{1}, old[1:]
			}
			want := impl.RegUnfit
			if fitsAsTold(mode, g.Schemas, s) {
				want = impl.RegOk
			}
			next, _, code := impl.Register(g, "a", 0, s)
			if code != want || !impl.RegistryOk(next) {
				t.Errorf("%s, mode %d: %d, not %d", name, mode, code, want)
			}
		}
	}
}

func TestRegisterWhereAllIsFull(t *testing.T) {
	fits, not := looks("record r", "a int = 1000"), looks("record r", "a flag")
	for _, mode := range []int{0, 1, 2, 4, 8, 9, 10, 12} {
		free := mode == 0 || mode == 8
		g := edgeRegistry(mode)
		mustNotRegister(t, "a version more", g, "s000", 0, fits, impl.RegFull)
		mustNotRegister(t, "a version more, of the last", g, "s019", 0, fits, impl.RegFull)
		mustNotRegister(t, "a version more, that another has", g, "s000", 0, g.Schemas[25], impl.RegFull)
		mustNotRegister(t, "a version more, that does not fit", g, "s000", 0, not, map[bool]int{true: impl.RegFull, false: impl.RegUnfit}[free])
		mustNotRegister(t, "a subject more", g, "new", mode, fits, impl.RegFull)
		mustNotRegister(t, "a subject more, of a schema that is there", g, "zzz", mode, g.Schemas[0], impl.RegFull)
		mustNotRegister(t, "a subject more, of no mode", g, "new", 3, fits, impl.RegBad)
		mustRegister(t, "one that it has", g, "s000", 3, g.Schemas[7], 8, g)
		mustRegister(t, "the newest that it has", g, "s000", -1, g.Schemas[39], 40, g)
		mustRegister(t, "the newest that the last has", g, "s019", -1, g.Schemas[38], 39, g)
	}
	most := fullRegistry(20, 20, 12)
	mustNotRegister(t, "a version more than all", most, "s019", 0, fits, impl.RegFull)
	mustRegister(t, "the last of all", most, "s019", 3, most.Schemas[399], 400, most)
	g := fullRegistry(1, 19, 12)
	g = mustRegister(t, "the last version that may be", g, "s000", 0, fits, 20, impl.Registry{Schemas: append(looksOf(19), fits), Subjects: []impl.Subject{{Name: "s000", Mode: 12, Versions: numbersFrom(1, 20)}}})
	mustNotRegister(t, "one version more", g, "s000", 0, looks("record r", "a int = 2000"), impl.RegFull)
	g = fullRegistry(19, 1, 12)
	g = mustRegister(t, "the last subject that may be", g, "a", 12, fits, 20, impl.Registry{Schemas: append(looksOf(19), fits), Subjects: append([]impl.Subject{{Name: "a", Mode: 12, Versions: []int{20}}}, g.Subjects...)})
	mustNotRegister(t, "one subject more", g, "b", 12, fits, impl.RegFull)
	mustRegister(t, "a version, where there are as many subjects as may be", g, "a", 0, looks("record r", "a int = 0"), 1, impl.Registry{Schemas: g.Schemas, Subjects: append([]impl.Subject{{Name: "a", Mode: 12, Versions: []int{20, 1}}}, g.Subjects[1:]...)})
}

// mustReadAsModesSay is promise 23's second half.
func mustReadAsModesSay(t *testing.T, g impl.Registry) {
	t.Helper()
	if !impl.RegistryOk(g) {
		t.Fatalf("%+v is not right", g)
	}
	for _, x := range g.Subjects {
		for at := 1; at < len(x.Versions); at++ {
			for ahead := range at {
				if x.Mode&impl.Always == 0 && ahead < at-1 {
					continue
				}
				newer, older := g.Schemas[x.Versions[at]-1], g.Schemas[x.Versions[ahead]-1]
				if x.Mode&(impl.Backward|impl.Full) != 0 && !(impl.CanRead(newer, older) && canReadAsTold(newer, older)) {
					t.Fatalf("mode %d: %+v does not read %+v", x.Mode, newer, older)
				}
				if x.Mode&(impl.Forward|impl.Full) != 0 && !(impl.CanRead(older, newer) && canReadAsTold(older, newer)) {
					t.Fatalf("mode %d: %+v is not read by %+v", x.Mode, newer, older)
				}
			}
		}
	}
}

// registerSome is a schema for a registry, and where to: one that is near to what is there, as a rule.
func registerSome(r *rand.Rand, g impl.Registry) (string, int, impl.Schema) {
	subject := pick(r, "a", "b", "c", "ab", "B", "d9", "e_", pick(r, schemaNames...))
	mode := pick(r, 0, 1, 2, 4, 8, 9, 10, 12)
	s := someSchema(r)
	if len(g.Schemas) > 0 && r.Intn(8) > 0 {
		s = pick(r, g.Schemas...)
		for _, x := range g.Subjects {
			if x.Name == subject && len(x.Versions) > 0 && r.Intn(5) > 0 {
				s = g.Schemas[x.Versions[len(x.Versions)-1]-1]
			}
		}
	}
	if r.Intn(8) > 0 {
		s = rightLook(r, s)
	}
	switch r.Intn(30) {
	case 0:
		s = spoilSchema(r, s)
	case 1:
		subject = pick(r, noNames...)
	case 2:
		mode = pick(r, -1, 3, 5, 7, 13, 16)
	}
	return subject, mode, s
}

// Promise 23.
func TestWhatARegistryLetsInReadsAndIsRead(t *testing.T) {
	r := rand.New(rand.NewSource(152))
	codes, again, modes := map[int]int{}, 0, map[int]int{}
	for range 60 {
		g := impl.Registry{}
		for range pick(r, 10, 30, 60) {
			subject, mode, s := registerSome(r, g)
			want, wantId, wantCode := registerAsTold(g, subject, mode, s)
			next, id, code := impl.Register(g, subject, mode, s)
			if id != wantId || code != wantCode || !sameRegistry(next, want) {
				t.Fatalf("%+v, %q, %d, %+v: %+v, %d, %d, not %+v, %d, %d", g, subject, mode, s, next, id, code, want, wantId, wantCode)
			}
			codes[code]++
			if code == impl.RegOk && sameRegistry(next, g) {
				again++
			}
			g = next
			mustReadAsModesSay(t, g)
		}
		for _, x := range g.Subjects {
			modes[x.Mode] += len(x.Versions) - 1
		}
	}
	if codes[impl.RegOk] < 300 || codes[impl.RegBad] < 50 || codes[impl.RegUnfit] < 200 || again < 30 || len(modes) != 8 {
		t.Error("what is registered is too much alike:", codes, again, modes)
	}
	for mode, count := range modes {
		if count < 20 {
			t.Error("too few versions of the mode", mode, count)
		}
	}
}

// spoilRegistry changes a registry so that it is not right, as a rule.
func spoilRegistry(r *rand.Rand, g impl.Registry) impl.Registry {
	g = plainRegistry(g)
	if len(g.Subjects) == 0 || len(g.Schemas) == 0 {
		return g
	}
	x := &g.Subjects[r.Intn(len(g.Subjects))]
	at := r.Intn(len(g.Schemas))
	switch r.Intn(7) {
	case 0:
		g.Schemas[at] = spoilSchema(r, g.Schemas[at])
	case 1:
		g.Schemas[at] = pick(r, rightLook(r, g.Schemas[at]), pick(r, g.Schemas...))
	case 2:
		x.Name = pick(r, append(slices.Clone(noNames), "a", "b", "zz")...)
	case 3:
		x.Mode = pick(r, 0, 1, 2, 3, 4, 8, 9, 10, 12, 13)
	case 4:
		x.Versions = append(x.Versions, pick(r, 0, 1, len(g.Schemas), len(g.Schemas)+1, at+1))
	case 5:
		r.Shuffle(len(x.Versions), func(i, j int) { x.Versions[i], x.Versions[j] = x.Versions[j], x.Versions[i] })
	default:
		if len(x.Versions) > 0 {
			x.Versions = x.Versions[:len(x.Versions)-1]
		}
	}
	return g
}

// randomRegistry is one that Register made.
func randomRegistry(r *rand.Rand) impl.Registry {
	g := impl.Registry{}
	for range r.Intn(12) {
		subject, mode, s := registerSome(r, g)
		g, _, _ = registerAsTold(g, subject, mode, s)
	}
	return g
}

func TestRegistryOkIsAsTold(t *testing.T) {
	r := rand.New(rand.NewSource(153))
	good, bad := 0, 0
	for range 3000 {
		g := randomRegistry(r)
		subject, mode, s := registerSome(r, g)
		if r.Intn(3) > 0 {
			g = spoilRegistry(r, g)
		}
		want := registryOkAsTold(g)
		if impl.RegistryOk(g) != want {
			t.Fatalf("%+v: not %v", g, want)
		}
		wantNext, wantId, wantCode := registerAsTold(g, subject, mode, s)
		next, id, code := impl.Register(g, subject, mode, s)
		if id != wantId || code != wantCode || !sameRegistry(next, wantNext) {
			t.Fatalf("%+v, %q, %d, %+v: %+v, %d, %d, not %+v, %d, %d", g, subject, mode, s, next, id, code, wantNext, wantId, wantCode)
		}
		if want {
			good++
		} else {
			bad++
		}
	}
	if good < 1000 || bad < 700 {
		t.Error("the registries to try are too much alike:", good, bad)
	}
}
