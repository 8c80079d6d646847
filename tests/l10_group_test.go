package tests

import (
	"fmt"
	"math"
	"math/rand"
	"reflect"
	"slices"
	"strings"
	"testing"

	"loop.example/g00035/impl"
)

func TestLimitsOfGroups(t *testing.T) {
	if impl.MaxGroupOps != 300 {
		t.Error("MaxGroupOps is", impl.MaxGroupOps)
	}
	kinds := []int{impl.GroupJoin, impl.GroupBeat, impl.GroupLeave, impl.GroupTick, impl.GroupTopic}
	if !slices.Equal(kinds, []int{1, 2, 3, 4, 5}) {
		t.Error("a kind is another than the document's:", kinds)
	}
	codes := []int{impl.GroupDone, impl.GroupBad, impl.GroupNone, impl.GroupFull}
	if !slices.Equal(codes, []int{0, 1, 2, 3}) {
		t.Error("a code is another than the document's:", codes)
	}
}

// groupWants tells members as assignors take them, with the slots of one of their lists as what they have.
func groupWants(g impl.Group, slots func(m impl.Member) []impl.Slot) []impl.Want {
	list := []impl.Want{}
	for _, m := range g.Members {
		list = append(list, impl.Want{Name: m.Name, Wants: m.Wants, Has: slots(m)})
	}
	return list
}

func ownsOf(m impl.Member) []impl.Slot   { return m.Owns }
func targetOf(m impl.Member) []impl.Slot { return m.Target }

func groupOkAsTold(g impl.Group) bool {
	ok := slices.Contains(assignKinds, g.Kind) && inBounds(g.Timeout, 1, 1000000000000) && inBounds(g.Now, 0, 1000000000000) && inBounds(g.Round, 0, 1000000000)
	ok = ok && topicsOkAsTold(g.Topics) && wantsOkAsTold(groupWants(g, ownsOf)) && wantsOkAsTold(groupWants(g, targetOf))
	statics := map[string]int{}
	for _, m := range g.Members {
		ok = ok && inBounds(m.Beat, 0, g.Now) && inBounds(m.Round, 0, g.Round)
		if m.Static != "" {
			statics[m.Static]++
			ok = ok && impl.NameOk(m.Static) && statics[m.Static] == 1
		}
	}
	return ok
}

// plainGroup is a copy of a group whose empty lists are nil.
func plainGroup(g impl.Group) impl.Group {
	g.Topics = append([]impl.Topic(nil), g.Topics...)
	g.Members = append([]impl.Member(nil), g.Members...)
	for i, m := range g.Members {
		m.Wants = append([]string(nil), m.Wants...)
		m.Owns = append([]impl.Slot(nil), m.Owns...)
		m.Target = append([]impl.Slot(nil), m.Target...)
		g.Members[i] = m
	}
	return g
}

func sameGroup(a impl.Group, b impl.Group) bool {
	return reflect.DeepEqual(plainGroup(a), plainGroup(b))
}

// club is a group of three: m1 has what it is to have; of what m3 is to have b0 is free, and a2 is with m2, which is to give it up.
func club() impl.Group {
	return impl.Group{Kind: impl.Sticky, Timeout: 50, Now: 100, Round: 7, Topics: topicsIn("a6 b1"), Members: []impl.Member{
		{Name: "m1", Static: "s1", Wants: []string{"a", "b"}, Beat: 60, Round: 7, Owns: slotsIn("a0 a1"), Target: slotsIn("a0 a1")},
		{Name: "m2", Wants: []string{"a"}, Beat: 100, Round: 6, Owns: slotsIn("a2 a3 a4 a5"), Target: slotsIn("a3 a4 a5")},
		{Name: "m3", Static: "s3", Wants: []string{"a", "b"}, Beat: 80, Target: slotsIn("a2 b0")},
	}}
}

type groupChange = func(g *impl.Group)

// who changes the member at a place.
func who(at int, do func(m *impl.Member)) groupChange {
	return func(g *impl.Group) { do(&g.Members[at]) }
}

func calling(at int, name string) groupChange {
	return who(at, func(m *impl.Member) { m.Name = name })
}

func statics(names ...string) groupChange {
	return func(g *impl.Group) {
		for i, name := range names {
			g.Members[i].Static = name
		}
	}
}

func asking(at int, names ...string) groupChange {
	return who(at, func(m *impl.Member) { m.Wants = names })
}

func owning(at int, slots ...impl.Slot) groupChange {
	return who(at, func(m *impl.Member) { m.Owns = slots })
}

func owningOf(at int, text string) groupChange {
	return owning(at, slotsIn(text)...)
}

func aiming(at int, slots ...impl.Slot) groupChange {
	return who(at, func(m *impl.Member) { m.Target = slots })
}

func aimingOf(at int, text string) groupChange {
	return aiming(at, slotsIn(text)...)
}

func beatAt(at int, beat int) groupChange {
	return who(at, func(m *impl.Member) { m.Beat = beat })
}

func roundOf(at int, round int) groupChange {
	return who(at, func(m *impl.Member) { m.Round = round })
}

func kindIs(kind int) groupChange    { return func(g *impl.Group) { g.Kind = kind } }
func timeoutIs(n int) groupChange    { return func(g *impl.Group) { g.Timeout = n } }
func nowIs(now int) groupChange      { return func(g *impl.Group) { g.Now = now } }
func roundIs(round int) groupChange  { return func(g *impl.Group) { g.Round = round } }
func topicsAre(s string) groupChange { return func(g *impl.Group) { g.Topics = topicsIn(s) } }

// crowded has so many members, that are all alike.
func crowded(count int) groupChange {
	return func(g *impl.Group) {
		g.Members = nil
		for _, name := range countedNames("m", count) {
			g.Members = append(g.Members, impl.Member{Name: name, Wants: []string{"a"}})
		}
	}
}

func changed(g impl.Group, changes ...groupChange) impl.Group {
	g = plainGroup(g)
	for _, do := range changes {
		do(&g)
	}
	return g
}

func goodGroups() map[string]groupChange {
	return map[string]groupChange{
		"as it is":                        func(g *impl.Group) {},
		"by ranges":                       kindIs(impl.ByRange),
		"by turns":                        kindIs(impl.ByTurns),
		"least Timeout":                   timeoutIs(1),
		"greatest Timeout":                timeoutIs(impl.MaxTime),
		"Now at the last Beat":            nowIs(100),
		"greatest Now":                    nowIs(impl.MaxTime),
		"Now 0":                           func(g *impl.Group) { g.Now, g.Members = 0, nil },
		"Round at the greatest member's":  roundIs(7),
		"greatest Round":                  roundIs(impl.MaxOffset),
		"Round 0":                         func(g *impl.Group) { g.Round, g.Members = 0, nil },
		"no Topics":                       topicsAre(""),
		"other Topics":                    topicsAre("q3"),
		"most Topics":                     func(g *impl.Group) { g.Topics = evenTopics(20, 20) },
		"no Members":                      crowded(0),
		"one member":                      crowded(1),
		"one member less than may be":     crowded(29),
		"most Members":                    crowded(30),
		"a Name of one byte":              calling(2, "z"),
		"a Name of most bytes":            calling(2, strings.Repeat("z", 20)),
		"Names by their bytes":            func(g *impl.Group) { calling(0, "Z")(g); calling(1, "a")(g); calling(2, "a_")(g) },
		"no Static":                       statics("", "", ""),
		"one Static":                      statics("", "s", ""),
		"three Statics that fall":         statics("s3", "s2", "s1"),
		"Statics of one letter, by case":  statics("s", "S", ""),
		"a Static of most bytes":          statics(strings.Repeat("s", 20)),
		"a Static that is its Name":       statics("m1"),
		"a Static that is another's Name": statics("m2"),
		"wants nothing":                   asking(1),
		"wants most":                      asking(1, countedNames("t", 20)...),
		"wants what is no topic":          asking(1, "q", "z"),
		"a wanted name of most bytes":     asking(1, strings.Repeat("z", 20)),
		"Beat 0":                          beatAt(0, 0),
		"Beat Now":                        beatAt(0, 100),
		"a Beat far ahead of Timeout":     func(g *impl.Group) { g.Timeout = 1; beatAt(0, 0)(g) },
		"a member's Round 0":              roundOf(0, 0),
		"a member's Round the group's":    roundOf(1, 7),
		"all Round 0":                     func(g *impl.Group) { roundOf(0, 0)(g); roundOf(1, 0)(g); g.Round = 0 },
		"owns nothing":                    owning(0),
		"owns most":                       owning(0, manySlots("s", 400)...),
		"two own most":                    func(g *impl.Group) { g.Members[0].Owns, g.Members[1].Owns = manySlots("s", 400), manySlots("u", 400) },
		"owns what it does not want":      owningOf(1, "b0 q1 z49"),
		"owns a Part at least":            owningOf(0, "a0"),
		"owns a Part at most":             owningOf(0, "a49"),
		"owns Parts as numbers":           owningOf(0, "a9 a10 a11"),
		"owns a Topic of most bytes":      owning(0, impl.Slot{Topic: strings.Repeat("z", 20)}),
		"owns by Topic, then by Part":     owningOf(0, "a49 b1 c0"),
		"is to have nothing":              aiming(0),
		"is to have most":                 aiming(0, manySlots("s", 400)...),
		"two are to have most": func(g *impl.Group) {
			g.Members[0].Target, g.Members[1].Target = manySlots("s", 400), manySlots("u", 400)
		},
		"is to have what it does not want": aimingOf(1, "b1 q1 z49"),
		"is to have a Part at least":       aimingOf(0, "a0"),
		"is to have a Part at most":        aimingOf(0, "a49"),
		"is to have Parts as numbers":      aimingOf(0, "a9 a10 a11"),
		"is to have of a long Topic":       aiming(0, impl.Slot{Topic: strings.Repeat("z", 20)}),
		"one's own another's to have":      func(g *impl.Group) { owningOf(0, "a7 a8")(g); aimingOf(1, "a7 a8")(g) },
		"each is to have another's":        func(g *impl.Group) { aimingOf(1, "a0 a1")(g); aimingOf(0, "a3 a4 a5")(g) },
	}
}

func TestGroupOkTakes(t *testing.T) {
	for name, do := range goodGroups() {
		g := changed(club(), do)
		if !groupOkAsTold(g) || !impl.GroupOk(g) {
			t.Errorf("refused: %s", name)
		}
		if x, told := impl.DoGroup(g, impl.GroupOp{Kind: impl.GroupBeat, Now: g.Now, Name: "nobody"}); told.Code != impl.GroupNone || !sameGroup(x, g) {
			t.Errorf("%s: %+v %+v", name, told, x)
		}
		if x, told := impl.RunGroup(g, nil); len(told) != 0 || !sameGroup(x, g) {
			t.Errorf("%s: RunGroup of nothing: %+v %+v", name, told, x)
		}
	}
	all := changed(club(), crowded(30))
	for i := range all.Members {
		letter := string(rune('a'+i%26)) + string(rune('A'+i/26))
		all.Members[i].Owns, all.Members[i].Target = manySlots(letter, 400), manySlots(letter+"_", 400)
	}
	if !impl.GroupOk(all) {
		t.Error("refused: most members with most slots each")
	}
}

// badGroups are not right, each for one reason.
func badGroups() map[string]groupChange {
	list := map[string]groupChange{
		"Kind 0":                            kindIs(0),
		"Kind 4":                            kindIs(4),
		"Kind -1":                           kindIs(-1),
		"least Kind":                        kindIs(math.MinInt),
		"greatest Kind":                     kindIs(math.MaxInt),
		"Timeout 0":                         timeoutIs(0),
		"Timeout -1":                        timeoutIs(-1),
		"Timeout beyond":                    timeoutIs(impl.MaxTime + 1),
		"greatest Timeout of all":           timeoutIs(math.MaxInt),
		"Now -1":                            func(g *impl.Group) { g.Now, g.Members = -1, nil },
		"Now beyond":                        nowIs(impl.MaxTime + 1),
		"Now ahead of a Beat":               nowIs(99),
		"Round -1":                          func(g *impl.Group) { g.Round, g.Members = -1, nil },
		"Round beyond":                      roundIs(impl.MaxOffset + 1),
		"Round below a member's":            roundIs(6),
		"too many members":                  crowded(31),
		"far too many members":              crowded(300),
		"Names that fall":                   calling(0, "m25"),
		"Names that fall at the end":        calling(2, "m15"),
		"a Name twice":                      calling(1, "m1"),
		"a Name twice at the end":           calling(2, "m2"),
		"a great letter behind":             calling(2, "Z"),
		"a beginning behind":                calling(2, "m"),
		"a Static twice":                    statics("s", "s"),
		"a Static twice, one between":       statics("s", "", "s"),
		"a Static twice at the end":         statics("", "s", "s"),
		"a Static of three":                 statics("s", "s", "s"),
		"Beat -1":                           beatAt(0, -1),
		"Beat behind Now":                   beatAt(0, 101),
		"the last one's Beat behind Now":    beatAt(2, 101),
		"least Beat":                        beatAt(1, math.MinInt),
		"greatest Beat":                     beatAt(1, math.MaxInt),
		"a member's Round -1":               roundOf(0, -1),
		"a member's Round beyond":           roundOf(0, 8),
		"the last one's Round beyond":       roundOf(2, 8),
		"wants too many":                    asking(1, countedNames("t", 21)...),
		"wanted names that fall":            asking(1, "b", "a"),
		"a wanted name twice":               asking(1, "a", "a"),
		"owns too many":                     owning(0, manySlots("s", 401)...),
		"the last one owns too many":        owning(2, manySlots("s", 401)...),
		"owns by Topics that fall":          owningOf(0, "b0 a0"),
		"owns by Parts that fall":           owningOf(0, "a1 a0"),
		"owns Parts as texts":               owningOf(0, "a10 a9"),
		"owns a slot twice":                 owningOf(0, "a0 a0"),
		"owns a Part of -1":                 owning(0, impl.Slot{Topic: "a", Part: -1}),
		"owns a Part beyond":                owningOf(0, "a50"),
		"a slot in two Owns":                owningOf(0, "a0 a2"),
		"a slot in two Owns, at the end":    owningOf(2, "a5"),
		"a slot in the first and last Owns": owningOf(2, "a1"),
		"is to have too many":               aiming(0, manySlots("s", 401)...),
		"the last one is to have too many":  aiming(2, manySlots("s", 401)...),
		"Topics to have that fall":          aimingOf(0, "b1 a0"),
		"Parts to have that fall":           aimingOf(0, "a1 a0"),
		"Parts to have as texts":            aimingOf(0, "a10 a9"),
		"is to have a slot twice":           aimingOf(0, "a0 a0"),
		"is to have a Part of -1":           aiming(0, impl.Slot{Topic: "a", Part: -1}),
		"is to have a Part beyond":          aimingOf(0, "a50"),
		"a slot in two Targets":             aimingOf(0, "a0 a3"),
		"in two Targets, at the end":        aimingOf(2, "a5"),
		"in the first and last Targets":     aimingOf(2, "a1"),
	}
	for _, name := range noNames {
		list[fmt.Sprintf("no name: %q", name)] = func(g *impl.Group) { crowded(1)(g); g.Members[0].Name = name }
		if name != "" {
			list[fmt.Sprintf("a Static that is no name: %q", name)] = statics("", name)
		}
		list[fmt.Sprintf("wants no name: %q", name)] = asking(1, name)
		list[fmt.Sprintf("owns of no name: %q", name)] = owning(2, impl.Slot{Topic: name})
		list[fmt.Sprintf("is to have of no name: %q", name)] = aiming(2, impl.Slot{Topic: name})
	}
	for name, topics := range badTopics() {
		list["Topics: "+name] = func(g *impl.Group) { g.Topics = topics }
		list["Topics alone: "+name] = func(g *impl.Group) { g.Topics, g.Members = topics, nil }
	}
	return list
}

func TestWhatIsNoGroupIsRefused(t *testing.T) {
	for name, do := range badGroups() {
		g := changed(club(), do)
		if groupOkAsTold(g) || impl.GroupOk(g) {
			t.Errorf("taken: %s", name)
		}
		mustRefuseGroup(t, name, g)
	}
	mustRefuseGroup(t, "the zero value", impl.Group{})
}

// mustRefuseGroup: no function of the chapter answers anything of it, whatever the op is.
func mustRefuseGroup(t *testing.T, name string, g impl.Group) {
	t.Helper()
	ops := []impl.GroupOp{{}}
	for kind := 1; kind <= 5; kind++ {
		ops = append(ops, impl.GroupOp{Kind: kind, Now: max(g.Now, 0), Name: "m1", Wants: []string{"a"}, Parts: 50}, impl.GroupOp{Kind: kind, Now: impl.MaxTime, Name: "new"})
	}
	for _, op := range ops {
		if x, told := impl.DoGroup(g, op); told.Code != impl.GroupBad || told.Round != 0 || len(told.Owns) != 0 || !sameGroup(x, impl.Group{}) {
			t.Errorf("DoGroup, %s: %+v %+v", name, told, x)
		}
	}
	for _, list := range [][]impl.GroupOp{nil, ops} {
		if x, told := impl.RunGroup(g, list); len(told) != 0 || !sameGroup(x, impl.Group{}) {
			t.Errorf("RunGroup, %s: %+v %+v", name, told, x)
		}
	}
	if impl.Still(g) {
		t.Errorf("still: %s", name)
	}
}

func TestNewGroup(t *testing.T) {
	for _, kind := range []int{math.MinInt, -1, 0, 1, 2, 3, 4, math.MaxInt} {
		for _, timeout := range []int{math.MinInt, -1, 0, 1, 2, 50, impl.MaxTime - 1, impl.MaxTime, impl.MaxTime + 1, math.MaxInt} {
			want := impl.Group{}
			right := inBounds(kind, 1, 3) && inBounds(timeout, 1, 1000000000000)
			if right {
				want.Kind, want.Timeout = kind, timeout
			}
			g := impl.NewGroup(kind, timeout)
			if !sameGroup(g, want) || impl.GroupOk(g) != right || impl.Still(g) != right {
				t.Errorf("NewGroup(%d, %d) is %+v", kind, timeout, g)
			}
		}
	}
}

// randomGroup is always right, though mostly none that ops come to: what members are to have is what an assignor gave them, or anything.
func randomGroup(r *rand.Rand) impl.Group {
	topics := randomTopics(r)
	wants := randomCrew(r, topics)
	g := impl.Group{Kind: pick(r, assignKinds...), Timeout: pick(r, 1, 5, 20, 50, impl.MaxTime), Now: pick(r, 0, 10, 40, 60, 1000, impl.MaxTime), Round: pick(r, 0, 1, 7, 7, 7, impl.MaxOffset-1, impl.MaxOffset), Topics: topics}
	shares, _ := impl.Assign(g.Kind, topics, wants)
	if r.Intn(3) == 0 {
		others := randomCrew(r, topics)
		for i := range shares {
			shares[i] = nil
			if i < len(others) {
				shares[i] = others[i].Has
			}
		}
	}
	for i, w := range wants {
		m := impl.Member{Name: w.Name, Wants: w.Wants, Owns: w.Has, Target: shares[i]}
		m.Beat = g.Now - min(g.Now, pick(r, 0, 1, 5, 6, 20, 21, 50, 51, g.Now))
		m.Round = pick(r, 0, g.Round, r.Intn(g.Round+1))
		if r.Intn(2) == 0 {
			m.Static = fmt.Sprintf("s%d", (i+3)%(len(wants)+5))
		}
		g.Members = append(g.Members, m)
	}
	if r.Intn(4) == 0 {
		for i := range g.Members {
			g.Members[i].Owns = slices.Clone(g.Members[i].Target)
		}
	}
	return g
}

// spoilGroup changes one thing of a group, mostly so that it is right no more.
func spoilGroup(r *rand.Rand, g impl.Group) impl.Group {
	g = plainGroup(g)
	if len(g.Members) < 2 {
		g = club()
	}
	at := r.Intn(len(g.Members))
	m, other := &g.Members[at], g.Members[(at+1)%len(g.Members)]
	switch r.Intn(11) {
	case 0:
		g.Kind = pick(r, -1, 0, 1, 3, 4)
	case 1:
		g.Timeout = pick(r, 0, 1, impl.MaxTime, impl.MaxTime+1)
	case 2:
		g.Now = pick(r, -1, g.Now-1, g.Now, impl.MaxTime, impl.MaxTime+1)
	case 3:
		g.Round = pick(r, -1, g.Round-1, g.Round, impl.MaxOffset, impl.MaxOffset+1)
	case 4:
		g.Topics = spoilTopics(r, g.Topics)
	case 5:
		m.Static = pick(r, pick(r, noNames...), other.Static, other.Name, m.Name)
	case 6:
		m.Beat = pick(r, -1, 0, g.Now, g.Now+1)
	case 7:
		m.Round = pick(r, -1, 0, g.Round, g.Round+1)
	case 8:
		m.Owns = pick(r, other.Target, other.Owns, m.Target, manySlots("s", pick(r, 400, 401)))
	case 9:
		m.Target = pick(r, other.Target, other.Owns, m.Owns, manySlots("s", pick(r, 400, 401)))
	case 10:
		spoilMembers(r, &g)
	}
	return g
}

// spoilMembers changes what is as of the members that assignors take.
func spoilMembers(r *rand.Rand, g *impl.Group) {
	for i, w := range spoilCrew(r, groupWants(*g, ownsOf)) {
		if i >= len(g.Members) {
			g.Members = append(g.Members, impl.Member{})
		}
		g.Members[i].Name, g.Members[i].Wants, g.Members[i].Owns = w.Name, w.Wants, w.Has
	}
}

func TestGroupOkIsAsTold(t *testing.T) {
	r := rand.New(rand.NewSource(121))
	taken, refused := 0, 0
	for range 4000 {
		g := randomGroup(r)
		if !groupOkAsTold(g) || !impl.GroupOk(g) {
			t.Fatalf("refused: %+v", g)
		}
		g = spoilGroup(r, g)
		want := groupOkAsTold(g)
		if impl.GroupOk(g) != want {
			t.Fatalf("GroupOk is %v: %+v", !want, g)
		}
		if want {
			taken++
			continue
		}
		if refused++; refused%10 == 0 {
			mustRefuseGroup(t, "at random", g)
		}
	}
	if taken < 600 || refused < 600 {
		t.Error("the groups to try are too much alike:", taken, refused)
	}
}
