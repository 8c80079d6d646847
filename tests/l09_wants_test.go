package tests

import (
	"fmt"
	"math"
	"math/rand"
	"slices"
	"strconv"
	"strings"
	"testing"

	"loop.example/g00035/impl"
)

func TestLimitsOfAssignors(t *testing.T) {
	limits := []int{impl.MaxTopics, impl.MaxTopicParts, impl.MaxMembers, impl.MaxSlots}
	if !slices.Equal(limits, []int{20, 50, 30, 400}) {
		t.Error("a limit is another than the document's:", limits)
	}
	kinds := []int{impl.ByRange, impl.ByTurns, impl.Sticky}
	if !slices.Equal(kinds, []int{1, 2, 3}) {
		t.Error("a kind is another than the document's:", kinds)
	}
}

// numberBehind parts a word such as b12 into its name and its number.
func numberBehind(word string) (string, int) {
	name := strings.TrimRight(word, "0123456789")
	n, err := strconv.Atoi(word[len(name):])
	if err != nil {
		panic(word + " has no number")
	}
	return name, n
}

// slotsIn reads slots: "a0 b12".
func slotsIn(text string) []impl.Slot {
	list := []impl.Slot{}
	for _, word := range strings.Fields(text) {
		topic, part := numberBehind(word)
		list = append(list, impl.Slot{Topic: topic, Part: part})
	}
	return list
}

// topicsIn reads topics, each with how many partitions it has: "a3 b2".
func topicsIn(text string) []impl.Topic {
	list := []impl.Topic{}
	for _, word := range strings.Fields(text) {
		name, parts := numberBehind(word)
		list = append(list, impl.Topic{Name: name, Parts: parts})
	}
	return list
}

// crewOf reads members, each with what it wants and, behind a stroke, what it has: "a b / a0 b12". Their names are m00, m01 and on.
func crewOf(lines ...string) []impl.Want {
	list := []impl.Want{}
	for i, text := range lines {
		wants, has, _ := strings.Cut(text, "/")
		list = append(list, impl.Want{Name: fmt.Sprintf("m%02d", i), Wants: strings.Fields(wants), Has: slotsIn(has)})
	}
	return list
}

// countedNames are so many names that ascend, with that letter ahead.
func countedNames(letter string, count int) []string {
	list := []string{}
	for i := range count {
		list = append(list, fmt.Sprintf("%s%03d", letter, i))
	}
	return list
}

// evenTopics are so many topics of so many partitions each.
func evenTopics(count int, parts int) []impl.Topic {
	list := []impl.Topic{}
	for _, name := range countedNames("t", count) {
		list = append(list, impl.Topic{Name: name, Parts: parts})
	}
	return list
}

// manySlots are so many slots, of topics whose names begin with a letter, 50 of each but of the last.
func manySlots(letter string, count int) []impl.Slot {
	list := []impl.Slot{}
	for i := range count {
		list = append(list, impl.Slot{Topic: fmt.Sprintf("%s%03d", letter, i/50), Part: i % 50})
	}
	return list
}

func manyMembers(count int) []impl.Want {
	list := []impl.Want{}
	for _, name := range countedNames("m", count) {
		list = append(list, impl.Want{Name: name, Wants: []string{"a"}})
	}
	return list
}

func topicsOkAsTold(list []impl.Topic) bool {
	ok := len(list) <= 20
	slots := 0.0
	for i, x := range list {
		ok = ok && impl.NameOk(x.Name) && inBounds(x.Parts, 0, 50) && (i == 0 || list[i-1].Name < x.Name)
		slots += float64(x.Parts)
	}
	return ok && slots <= 400
}

func slotAhead(a impl.Slot, b impl.Slot) bool {
	return a.Topic < b.Topic || a.Topic == b.Topic && a.Part < b.Part
}

func wantsOkAsTold(list []impl.Want) bool {
	ok := len(list) <= 30
	for i, x := range list {
		ok = ok && impl.NameOk(x.Name) && (i == 0 || list[i-1].Name < x.Name) && len(x.Wants) <= 20 && len(x.Has) <= 400
		for j, name := range x.Wants {
			ok = ok && impl.NameOk(name) && (j == 0 || x.Wants[j-1] < name)
		}
		for j, s := range x.Has {
			ok = ok && impl.NameOk(s.Topic) && inBounds(s.Part, 0, 49) && (j == 0 || slotAhead(x.Has[j-1], s))
		}
		for _, y := range list[:i] {
			ok = ok && !slices.ContainsFunc(x.Has, func(s impl.Slot) bool { return slices.Contains(y.Has, s) })
		}
	}
	return ok
}

// noNames are texts that are none.
var noNames = []string{"", strings.Repeat("x", 21), "1a", "_a", "a b", "a-b", "a.b", " a", "a ", "a\x00", "\x00", "é", "aé", "a\n"}

func TestTopicsOkTakes(t *testing.T) {
	good := map[string][]impl.Topic{
		"nil":                      nil,
		"an empty list":            {},
		"one":                      topicsIn("a1"),
		"several":                  topicsIn("a3 b2 c7"),
		"no partitions":            topicsIn("a0"),
		"no partitions among some": topicsIn("a3 b0 c1"),
		"all without partitions":   evenTopics(20, 0),
		"most Parts":               topicsIn("a50"),
		"one less":                 topicsIn("a49"),
		"most topics":              evenTopics(20, 3),
		"one topic less":           evenTopics(19, 3),
		"most partitions, few":     evenTopics(8, 50),
		"most partitions, many":    evenTopics(20, 20),
		"one partition less":       append(evenTopics(7, 50), impl.Topic{Name: "u", Parts: 49}),
		"the last without any":     append(evenTopics(8, 50), impl.Topic{Name: "u"}),
		"Names by their bytes":     {{Name: "A"}, {Name: "B1"}, {Name: "B1_"}, {Name: "B1a"}, {Name: "Z", Parts: 2}, {Name: "a"}, {Name: "a0"}, {Name: "aA"}, {Name: "a_"}, {Name: "aa"}, {Name: "b"}},
		"digits as texts":          {{Name: "t1"}, {Name: "t10"}, {Name: "t2"}},
		"Names of most bytes":      {{Name: strings.Repeat("x", 20), Parts: 1}, {Name: strings.Repeat("y", 20), Parts: 1}},
	}
	for name, list := range good {
		if !topicsOkAsTold(list) || !impl.TopicsOk(list) {
			t.Errorf("refused: %s", name)
		}
		if _, ok := impl.Assign(impl.ByRange, list, crewOf("a")); !ok {
			t.Errorf("not assigned: %s", name)
		}
	}
}

// badTopics are not right, each for one reason.
func badTopics() map[string][]impl.Topic {
	list := map[string][]impl.Topic{
		"too many topics":                    evenTopics(21, 3),
		"too many topics without partitions": evenTopics(21, 0),
		"Parts below 0":                      {{Name: "a", Parts: -1}},
		"Parts below 0 among some":           {{Name: "a", Parts: 3}, {Name: "b", Parts: -1}, {Name: "c", Parts: 3}},
		"least Parts":                        {{Name: "a", Parts: math.MinInt}},
		"Parts beyond":                       topicsIn("a51"),
		"Parts beyond at the end":            topicsIn("a3 b51"),
		"greatest Parts":                     {{Name: "a", Parts: math.MaxInt}},
		"Parts that make up for each other":  {{Name: "a", Parts: math.MaxInt}, {Name: "b", Parts: math.MinInt}},
		"too many partitions by one":         append(evenTopics(8, 50), impl.Topic{Name: "u", Parts: 1}),
		"too many, one ahead":                append([]impl.Topic{{Name: "a", Parts: 1}}, evenTopics(8, 50)...),
		"too many by many":                   append(evenTopics(19, 20), impl.Topic{Name: "u", Parts: 21}),
		"far too many":                       evenTopics(20, 50),
		"Names that fall":                    topicsIn("b1 a1"),
		"Names that fall at the end":         topicsIn("a1 c1 b1"),
		"Names that fall at the front":       topicsIn("b1 a1 c1"),
		"a Name twice":                       topicsIn("a1 a1"),
		"a Name twice, other Parts":          topicsIn("a1 b1 b2"),
		"a Name twice without partitions":    topicsIn("a0 a0"),
		"a small letter ahead of a great":    topicsIn("a1 B1"),
		"a beginning behind":                 topicsIn("aa1 a1"),
		"digits as numbers":                  {{Name: "t2"}, {Name: "t10"}},
	}
	for _, name := range noNames {
		list[fmt.Sprintf("no name: %q", name)] = []impl.Topic{{Name: name, Parts: 1}}
		list[fmt.Sprintf("no name without partitions: %q", name)] = []impl.Topic{{Name: name}}
	}
	list["no name behind a name"] = []impl.Topic{{Name: "a", Parts: 1}, {Name: "b-", Parts: 1}}
	return list
}

func TestWhatAreNoTopicsIsRefused(t *testing.T) {
	for name, list := range badTopics() {
		if topicsOkAsTold(list) || impl.TopicsOk(list) {
			t.Errorf("taken: %s", name)
		}
		mustNotAssign(t, name, list, nil)
		mustNotAssign(t, name, list, crewOf("a", "b / a0"))
	}
}

// mustNotAssign: no kind answers anything.
func mustNotAssign(t *testing.T, name string, topics []impl.Topic, wants []impl.Want) {
	t.Helper()
	for _, kind := range []int{impl.ByRange, impl.ByTurns, impl.Sticky, 0, 4, -1} {
		if list, ok := impl.Assign(kind, topics, wants); ok || len(list) != 0 {
			t.Errorf("Assign by %d, %s: %v %v", kind, name, list, ok)
		}
	}
}

// crew are three members that want some topics each, and have slots of these and of others.
func crew() []impl.Want {
	return crewOf("a b c / a0 a2 c10", "b d / a1 b2 b10 e0", "c")
}

type crewChange = func(list *[]impl.Want)

func member(at int, do func(w *impl.Want)) crewChange {
	return func(list *[]impl.Want) { do(&(*list)[at]) }
}

func named(at int, name string) crewChange {
	return member(at, func(w *impl.Want) { w.Name = name })
}

func wanting(at int, names ...string) crewChange {
	return member(at, func(w *impl.Want) { w.Wants = names })
}

func having(at int, slots ...impl.Slot) crewChange {
	return member(at, func(w *impl.Want) { w.Has = slots })
}

func havingOf(at int, text string) crewChange {
	return having(at, slotsIn(text)...)
}

func TestWantsOkTakes(t *testing.T) {
	good := map[string]crewChange{
		"as it is":                       func(list *[]impl.Want) {},
		"nil":                            func(list *[]impl.Want) { *list = nil },
		"an empty list":                  func(list *[]impl.Want) { *list = []impl.Want{} },
		"one that wants and has nothing": func(list *[]impl.Want) { *list = []impl.Want{{Name: "m"}} },
		"most members":                   func(list *[]impl.Want) { *list = manyMembers(30) },
		"one member less":                func(list *[]impl.Want) { *list = manyMembers(29) },
		"a Name of one byte":             named(2, "x"),
		"a Name of most bytes":           named(2, strings.Repeat("x", 20)),
		"Names by their bytes": func(list *[]impl.Want) {
			*list = []impl.Want{{Name: "Z"}, {Name: "a"}, {Name: "a1"}, {Name: "aA"}, {Name: "a_"}, {Name: "aa"}}
		},
		"a beginning ahead":              named(2, "m010"),
		"wants nothing":                  wanting(0),
		"an empty list of wants":         wanting(0, []string{}...),
		"wants one":                      wanting(0, "z"),
		"wants most":                     wanting(0, countedNames("t", 20)...),
		"wants one less":                 wanting(0, countedNames("t", 19)...),
		"a wanted name of most bytes":    wanting(0, strings.Repeat("x", 20)),
		"wanted names by their bytes":    wanting(0, "A", "B1", "B1_", "B1a", "a", "a0", "aa"),
		"all want the same":              func(list *[]impl.Want) { *list = crewOf("a b", "a b", "a b") },
		"a topic with a member's name":   wanting(0, "m00"),
		"has nothing":                    having(0),
		"has one":                        havingOf(2, "z7"),
		"has most":                       having(2, manySlots("s", 400)...),
		"has one less":                   having(2, manySlots("s", 399)...),
		"two have most":                  func(list *[]impl.Want) { (*list)[0].Has, (*list)[2].Has = manySlots("s", 400), manySlots("u", 400) },
		"has of what it does not want":   havingOf(2, "a5 b0 z0"),
		"Part at least":                  havingOf(2, "c0"),
		"Part at most":                   havingOf(2, "c49"),
		"all Parts of one topic":         having(2, manySlots("s", 50)...),
		"Parts as numbers":               havingOf(2, "c2 c9 c11 c20"),
		"Parts that fall with the topic": havingOf(2, "a49 b1 c0"),
		"has of topics by their bytes":   having(2, impl.Slot{Topic: "B"}, impl.Slot{Topic: "B1"}, impl.Slot{Topic: "B_"}, impl.Slot{Topic: "f"}),
		"the same Part of other topics":  havingOf(2, "b0 c0 d0"),
		"a Topic of most bytes":          having(2, impl.Slot{Topic: strings.Repeat("x", 20), Part: 3}),
	}
	for name, do := range good {
		list := crew()
		do(&list)
		if !wantsOkAsTold(list) || !impl.WantsOk(list) {
			t.Errorf("refused: %s", name)
		}
		if shares, ok := impl.Assign(impl.Sticky, topicsIn("a2 b3"), list); !ok || len(shares) != len(list) {
			t.Errorf("not assigned: %s", name)
		}
		if n := impl.Moves(list, make([][]impl.Slot, len(list))); n < 0 {
			t.Errorf("Moves is %d: %s", n, name)
		}
	}
	all := manyMembers(30)
	for i := range all {
		all[i].Has = manySlots(string(rune('a'+i%26))+string(rune('A'+i/26)), 400)
	}
	if !impl.WantsOk(all) || impl.Moves(all, make([][]impl.Slot, 30)) != 12000 {
		t.Error("refused: most members with most slots each")
	}
}

// badWants are not right, each for one reason.
func badWants() map[string]crewChange {
	list := map[string]crewChange{
		"too many members":               func(list *[]impl.Want) { *list = manyMembers(31) },
		"Names that fall":                named(0, "m015"),
		"Names that fall at the end":     named(2, "m001"),
		"a Name twice":                   named(0, "m01"),
		"a Name twice at the end":        named(2, "m01"),
		"a great letter behind":          named(2, "Z"),
		"a beginning behind":             named(2, "m0"),
		"wants too many":                 wanting(0, countedNames("t", 21)...),
		"the last wants too many":        wanting(2, countedNames("t", 21)...),
		"wanted names that fall":         wanting(0, "b", "a"),
		"that fall at the end":           wanting(0, "a", "c", "b"),
		"the last one's fall":            wanting(2, "b", "a"),
		"a wanted name twice":            wanting(0, "a", "a"),
		"twice at the end":               wanting(0, "a", "b", "b"),
		"a wanted beginning behind":      wanting(0, "aa", "a"),
		"a wanted great letter behind":   wanting(0, "a", "B"),
		"has too many":                   having(2, manySlots("s", 401)...),
		"the first has too many":         having(0, manySlots("s", 401)...),
		"slots that fall by Topic":       havingOf(2, "d0 c0"),
		"that fall by Topic at the end":  havingOf(2, "b0 d0 c0"),
		"that rise by Part alone":        havingOf(2, "d0 c1"),
		"a Topic again behind another":   havingOf(2, "c0 d0 c1"),
		"slots that fall by Part":        havingOf(2, "c1 c0"),
		"that fall by Part at the end":   havingOf(2, "b7 c0 c2 c1"),
		"Parts as texts":                 havingOf(2, "c12 c2"),
		"a Topic that is less by case":   havingOf(2, "c0 C0"),
		"a slot twice in a Has":          havingOf(2, "c0 c0"),
		"twice at the end of a Has":      havingOf(2, "b0 c0 c7 c7"),
		"a slot of the one ahead":        havingOf(2, "e0"),
		"a slot of the first":            havingOf(2, "a0"),
		"the first's last, among others": havingOf(2, "b0 c10 z0"),
		"a slot in two, the first two":   havingOf(0, "a1"),
		"Part -1":                        having(2, impl.Slot{Topic: "c", Part: -1}),
		"Part -1 ahead of others":        having(2, impl.Slot{Topic: "c", Part: -1}, impl.Slot{Topic: "c"}),
		"least Part":                     having(2, impl.Slot{Topic: "c", Part: math.MinInt}),
		"Part beyond":                    havingOf(2, "c50"),
		"Part beyond behind others":      havingOf(2, "b0 c49 c50"),
		"the first one's beyond":         havingOf(0, "c50"),
		"greatest Part":                  having(2, impl.Slot{Topic: "c", Part: math.MaxInt}),
	}
	for _, name := range noNames {
		list[fmt.Sprintf("no name: %q", name)] = func(list *[]impl.Want) { *list = []impl.Want{{Name: name}} }
		list[fmt.Sprintf("wants no name: %q", name)] = wanting(2, name)
		list[fmt.Sprintf("has no name: %q", name)] = having(2, impl.Slot{Topic: name})
	}
	list["no name behind names"] = named(2, "m2-")
	list["wants no name behind a name"] = wanting(0, "a", "b-")
	list["has no name behind a name"] = having(2, impl.Slot{Topic: "b"}, impl.Slot{Topic: "c-"})
	return list
}

func TestWhatAreNoWantsIsRefused(t *testing.T) {
	for name, do := range badWants() {
		list := crew()
		do(&list)
		if wantsOkAsTold(list) || impl.WantsOk(list) {
			t.Errorf("taken: %s", name)
		}
		mustRefuseWants(t, name, list)
	}
}

func mustRefuseWants(t *testing.T, name string, list []impl.Want) {
	t.Helper()
	mustNotAssign(t, name, topicsIn("a3 b2"), list)
	mustNotAssign(t, name, nil, list)
	for _, more := range []int{-1, 0, 1} {
		shares := make([][]impl.Slot, len(list)+more)
		if n := impl.Moves(list, shares); n != -1 {
			t.Errorf("Moves, %s: %d", name, n)
		}
	}
}

// randomTopics are always right: most are few and small, some as many as may be.
func randomTopics(r *rand.Rand) []impl.Topic {
	list := []impl.Topic{}
	left := 400
	for _, name := range someNames(r) {
		parts := min(left, pick(r, 0, 1, 2, 3, 4, 5, 7, 12, 50))
		list = append(list, impl.Topic{Name: name, Parts: parts})
		left -= parts
	}
	return list
}

// someNames are topics' names, out of a few or of just as many as may be.
func someNames(r *rand.Rand) []string {
	if r.Intn(15) == 0 {
		return countedNames("t", pick(r, 19, 20))
	}
	list := []string{}
	for _, name := range []string{"B", "B_", "a", "a1", "a10", "b", "z"} {
		if r.Intn(3) > 0 {
			list = append(list, name)
		}
	}
	return list
}

// randomCrew is always right: it wants some of the topics and others, and has slots of both, few or most of them.
func randomCrew(r *rand.Rand, topics []impl.Topic) []impl.Want {
	list := manyMembers(pick(r, 0, 1, 2, 2, 3, 3, 4, 5, 6, 8, 30))
	every := []string{"c", "q"}
	for _, x := range topics {
		every = append(every, x.Name)
	}
	slices.Sort(every)
	chance := pick(r, 0, 1, 2, 3, 4, 4)
	for i := range list {
		list[i].Wants = nil
		for _, name := range every {
			if r.Intn(4) < chance && len(list[i].Wants) < 20 {
				list[i].Wants = append(list[i].Wants, name)
			}
		}
	}
	if len(list) > 0 {
		handOut(r, topics, list)
	}
	return list
}

// handOut gives members slots of topics, and some that are none of these, in order; to a few of the members often most of them.
func handOut(r *rand.Rand, topics []impl.Topic, list []impl.Want) {
	chance := pick(r, 0, 1, 2, 3, 4, 4)
	few := 1 + r.Intn(len(list))
	every := append(slices.Clone(topics), impl.Topic{Name: "q", Parts: 1 + r.Intn(3)})
	slices.SortFunc(every, func(a, b impl.Topic) int { return strings.Compare(a.Name, b.Name) })
	for _, x := range every {
		for part := range min(x.Parts+pick(r, 0, 0, 2), 50) {
			w := &list[r.Intn(few)]
			if r.Intn(4) < chance && len(w.Has) < 400 {
				w.Has = append(w.Has, impl.Slot{Topic: x.Name, Part: part})
			}
		}
	}
}

// spoilTopics changes one thing of topics, mostly so that they are right no more.
func spoilTopics(r *rand.Rand, list []impl.Topic) []impl.Topic {
	if len(list) == 0 {
		list = topicsIn("a3 b2")
	}
	x := &list[r.Intn(len(list))]
	switch r.Intn(4) {
	case 0:
		x.Name = pick(r, pick(r, noNames...), "a", "b", list[0].Name, list[len(list)-1].Name)
	case 1:
		x.Parts = pick(r, -1, 0, 49, 50, 51, math.MaxInt, math.MinInt)
	case 2:
		return evenTopics(pick(r, 19, 20, 21), pick(r, 0, 19, 20, 21))
	case 3:
		slices.Reverse(list)
	}
	return list
}

// spoilCrew changes one thing of members, mostly so that they are right no more.
func spoilCrew(r *rand.Rand, list []impl.Want) []impl.Want {
	if len(list) == 0 {
		list = crew()
	}
	w, other := &list[r.Intn(len(list))], list[r.Intn(len(list))]
	switch r.Intn(7) {
	case 0:
		w.Name = pick(r, pick(r, noNames...), other.Name, "m", "m0005", "z")
	case 1:
		w.Wants = append(w.Wants, pick(r, pick(r, noNames...), "a", "zz", "c"))
	case 2:
		w.Wants = countedNames("t", pick(r, 19, 20, 21))
	case 3:
		w.Has = append(w.Has, impl.Slot{Topic: pick(r, pick(r, noNames...), "a", "z", "zz"), Part: pick(r, -1, 0, 1, 49, 50)})
	case 4:
		w.Has = manySlots("zs", pick(r, 399, 400, 401))
	case 5:
		w.Has = append(slices.Clone(w.Has), other.Has...)
	case 6:
		slices.Reverse(w.Has)
	}
	if r.Intn(30) == 0 {
		list = manyMembers(pick(r, 29, 30, 31))
	}
	return list
}

func TestTopicsAndWantsOkAreAsTold(t *testing.T) {
	r := rand.New(rand.NewSource(111))
	counts := [4]int{}
	for range 6000 {
		topics := randomTopics(r)
		wants := randomCrew(r, topics)
		if !topicsOkAsTold(topics) || !impl.TopicsOk(topics) || !wantsOkAsTold(wants) || !impl.WantsOk(wants) {
			t.Fatalf("refused: %+v %+v", topics, wants)
		}
		topics, wants = spoilTopics(r, topics), spoilCrew(r, wants)
		right, wanted := topicsOkAsTold(topics), wantsOkAsTold(wants)
		if impl.TopicsOk(topics) != right || impl.WantsOk(wants) != wanted {
			t.Fatalf("TopicsOk or WantsOk is not %v, %v: %+v %+v", right, wanted, topics, wants)
		}
		if !wanted {
			mustRefuseWants(t, "at random", wants)
		}
		if !right {
			mustNotAssign(t, "at random", topics, wants)
		}
		for i, ok := range []bool{right, !right, wanted, !wanted} {
			if ok {
				counts[i]++
			}
		}
	}
	if slices.Min(counts[:]) < 600 {
		t.Error("what is tried is too much alike:", counts)
	}
}
