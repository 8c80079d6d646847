package tests

import (
	"fmt"
	"math/rand"
	"slices"
	"testing"

	"loop.example/g00035/impl"
)

func runGroupAsTold(g impl.Group, ops []impl.GroupOp) (impl.Group, []impl.GroupTold) {
	if !groupOkAsTold(g) || len(ops) > 300 {
		return impl.Group{}, nil
	}
	list := []impl.GroupTold{}
	for _, op := range ops {
		x, told := doGroupAsTold(g, op)
		g, list = x, append(list, told)
	}
	return g, list
}

func mustRunGroup(t *testing.T, name string, g impl.Group, ops []impl.GroupOp) (impl.Group, []impl.GroupTold) {
	t.Helper()
	x, list := impl.RunGroup(g, ops)
	want, wantList := runGroupAsTold(g, ops)
	if !slices.EqualFunc(list, wantList, sameGroupTold) || !sameGroup(x, want) || !impl.GroupOk(x) || len(list) != len(ops) {
		t.Errorf("%s: %+v, not %+v:\n%+v, not\n%+v", name, list, wantList, x, want)
	}
	return x, list
}

func TestRunGroup(t *testing.T) {
	if x, _ := mustRunGroup(t, "no ops", club(), nil); !sameGroup(x, club()) {
		t.Error("no ops changed the group:", x)
	}
	mustRunGroup(t, "an empty list", club(), []impl.GroupOp{})
	late := beats("m1", "")
	late.Now = 109
	ops := []impl.GroupOp{beats("m2", "a3 a4 a5"), {}, late, beats("m3", ""), beats("m9", ""), joins("m2", "s1", "b"), leaves("m9"), topicGets("a", 5), joins("m9", "s3", "a", "b"), beats("m3", ""), leaves("m1")}
	x, list := mustRunGroup(t, "refused ones among others", club(), ops)
	codes := []int{}
	for _, told := range list {
		codes = append(codes, told.Code)
	}
	if !slices.Equal(codes, []int{0, 1, 1, 0, 2, 1, 2, 1, 0, 2, 0}) {
		t.Error(codes)
	}
	if x.Round != 8 || x.Now != 110 || len(x.Members) != 2 || sharesText([][]impl.Slot{x.Members[1].Owns}) != "a2 b0" {
		t.Errorf("behind them: %+v", x)
	}
}

func TestRunGroupUpToMaxGroupOps(t *testing.T) {
	ops := []impl.GroupOp{}
	for len(ops) < 300 {
		ops = append(ops, ticks(len(ops)))
	}
	x, _ := mustRunGroup(t, "MaxGroupOps", impl.NewGroup(impl.ByRange, 3), ops)
	if x.Now != 299 {
		t.Error("not all were done:", x)
	}
	mustRunGroup(t, "as many that are none", club(), make([]impl.GroupOp, 300))
	for _, more := range []int{1, 2, 300} {
		list := append(slices.Clone(ops), make([]impl.GroupOp, more)...)
		if x, told := impl.RunGroup(impl.NewGroup(impl.ByRange, 3), list); len(told) != 0 || !sameGroup(x, impl.Group{}) {
			t.Error("more than MaxGroupOps:", len(list), told)
		}
	}
}

func TestRunGroupIsAsTold(t *testing.T) {
	r := rand.New(rand.NewSource(123))
	for range 150 {
		g := randomGroup(r)
		ops := []impl.GroupOp{}
		for x := g; len(ops) < 20; {
			op := groupOpFor(r, x)
			if r.Intn(5) == 0 {
				op = spoilGroupOp(r, x, op)
			}
			x, _ = impl.DoGroup(x, op)
			ops = append(ops, op)
		}
		mustRunGroup(t, "at random", g, ops)
	}
}

// Nothing refuses a beat because of how much comes to a member: one that says that it keeps slots of topics that the group does not know may have more than MaxSlots then, and the group is right no more. No group that began with NewGroup comes to that.
func TestBeatsBeyondMaxSlots(t *testing.T) {
	g := changed(club(), owning(0, manySlots("s", 399)...), aimingOf(0, "a0"))
	op := beats("m1", "")
	op.Owns = manySlots("s", 399)
	mustGroup(t, "up to MaxSlots", g, op, "a0", beatAt(0, 110), owning(0, append(slotsIn("a0"), manySlots("s", 399)...)...))
	g = changed(g, aimingOf(0, "a0 a1"))
	x, told := impl.DoGroup(g, op)
	if told.Code != impl.GroupDone || len(x.Members[0].Owns) != 401 || impl.GroupOk(x) {
		t.Errorf("one more: %+v", told)
	}
	mustBeAsTold(t, "one more", g, op)
	y, list := impl.RunGroup(g, []impl.GroupOp{op, op, op})
	if want, wantList := runGroupAsTold(g, []impl.GroupOp{op, op, op}); !sameGroup(y, want) || !slices.EqualFunc(list, wantList, sameGroupTold) {
		t.Errorf("and more ops: %+v, not %+v", list, wantList)
	}
}

func TestStill(t *testing.T) {
	still := func(name string, g impl.Group, want bool) {
		t.Helper()
		if impl.Still(g) != want {
			t.Errorf("%s: still is %v", name, !want)
		}
	}
	still("no members", impl.NewGroup(impl.Sticky, 1), true)
	still("topics, no members", changed(club(), crowded(0)), true)
	still("members that are to have nothing", changed(club(), crowded(5)), true)
	still("the club", club(), false)
	settled := changed(club(), owningOf(1, "a3 a4 a5"), owningOf(2, "a2 b0"))
	still("the club, settled", settled, true)
	still("whatever the members' Rounds", changed(settled, roundOf(0, 0), roundOf(1, 0), roundOf(2, 0)), true)
	still("however long ago", changed(settled, nowIs(impl.MaxTime)), true)
	still("one has one less", changed(settled, owningOf(2, "b0")), false)
	still("one has none", changed(settled, owning(0)), false)
	still("one has one more", changed(settled, owningOf(0, "a0 a1 z0")), false)
	still("one has another", changed(settled, owningOf(0, "a0 b3")), false)
	still("the last has one more", changed(settled, owningOf(2, "a2 b0 b1")), false)
	still("what is to have more is not still", changed(settled, aimingOf(1, "a3 a4 a5 b5")), false)
	still("two have what the other is to have", changed(settled, owningOf(0, "a3 a4 a5"), owningOf(1, "a0 a1")), false)
	still("targets that are no more of this group's topics", changed(settled, topicsAre("")), true)
	x, _ := impl.DoGroup(settled, joins("m9", "", "a"))
	still("behind a round that moves", x, false)
	x, _ = impl.DoGroup(settled, topicGets("c", 3))
	still("behind a round that moves nothing", x, true)
	x, _ = impl.DoGroup(settled, topicGets("a", 7))
	still("behind a round that gives more", x, false)
	still("one that is not right", changed(settled, kindIs(0)), false)
	still("no members, and not right", changed(club(), crowded(0), timeoutIs(0)), false)
}

// A life is a group that began with NewGroup, and what each member was told last.
type life struct {
	t     *testing.T
	r     *rand.Rand
	g     impl.Group
	told  map[string][]impl.Slot
	codes [6][4]int
	moved int
}

func (l *life) someSlots() []impl.Slot {
	list := []impl.Slot{}
	for _, topic := range []string{"a", "b", "c", "d", "q"} {
		for part := range 8 {
			if l.r.Intn(3) == 0 {
				list = append(list, impl.Slot{Topic: topic, Part: part})
			}
		}
	}
	return list
}

// says is what a member says that it has: what it was told, or anything at all.
func (l *life) says(name string) []impl.Slot {
	for _, m := range l.g.Members {
		if m.Name == name && l.r.Intn(2) == 0 {
			return pick(l.r, m.Owns, m.Target, commonSlots(m.Owns, m.Target))
		}
	}
	other := []impl.Slot{}
	if len(l.g.Members) > 0 {
		m := pick(l.r, l.g.Members...)
		other = pick(l.r, m.Owns, m.Target)
	}
	return pick(l.r, l.told[name], l.told[name], other, l.someSlots(), nil)
}

func (l *life) op() impl.GroupOp {
	r := l.r
	op := impl.GroupOp{Kind: pick(r, 1, 1, 1, 2, 2, 2, 2, 2, 2, 3, 4, 5), Now: l.g.Now + pick(r, 0, 0, 1, 3), Name: pick(r, "A", "m", "m1", "m10", "m2", "n", "z")}
	switch op.Kind {
	case impl.GroupJoin:
		op.Static = pick(r, "", "", "s", "s1", "t")
		for _, topic := range []string{"a", "b", "c", "d"} {
			if r.Intn(3) > 0 {
				op.Wants = append(op.Wants, topic)
			}
		}
	case impl.GroupBeat:
		op.Owns = l.says(op.Name)
	case impl.GroupTopic:
		op.Name, op.Parts = pick(r, "a", "b", "c", "d", "e"), pick(r, 0, 1, 2, 3, 4, 5, 7)
	}
	return op
}

// do: behind each op the group is right, no slot is in two Owns, and whoever keeps to what it was told last is at no partition that another has.
func (l *life) do(op impl.GroupOp) impl.GroupTold {
	l.t.Helper()
	x, told := impl.DoGroup(l.g, op)
	l.codes[op.Kind][told.Code]++
	if !impl.GroupOk(x) || !groupOkAsTold(x) || x.Round < l.g.Round || x.Round > l.g.Round+1 || told.Round != x.Round {
		l.t.Fatalf("%+v: %+v\n%+v\n%+v", op, told, l.g, x)
	}
	if x.Round > l.g.Round {
		l.moved++
	}
	if told.Code == impl.GroupDone && (op.Kind == impl.GroupJoin || op.Kind == impl.GroupBeat) {
		l.told[op.Name] = told.Owns
	}
	l.g = x
	owners := map[impl.Slot]string{}
	for _, m := range x.Members {
		for _, s := range m.Owns {
			if other, taken := owners[s]; taken {
				l.t.Fatalf("%+v: %v is with %s and with %s", op, s, other, m.Name)
			}
			owners[s] = m.Name
		}
	}
	for _, m := range x.Members {
		for _, s := range l.told[m.Name] {
			if owner, taken := owners[s]; taken && owner != m.Name {
				l.t.Fatalf("%+v: %v was told to %s, and is with %s", op, s, m.Name, owner)
			}
		}
	}
	return told
}

func (l *life) beatAll(says func(m impl.Member) []impl.Slot) {
	l.t.Helper()
	for _, at := range l.r.Perm(len(l.g.Members)) {
		m := l.g.Members[at]
		told := l.do(impl.GroupOp{Kind: impl.GroupBeat, Now: l.g.Now + l.r.Intn(2), Name: m.Name, Owns: says(m)})
		if told.Code != impl.GroupDone {
			l.t.Fatalf("%s may not beat: %+v", m.Name, told)
		}
	}
}

// settle: all members beat twice, and then the group is still, and all that is wanted is owned.
func (l *life) settle() {
	l.t.Helper()
	was := l.g
	l.beatAll(func(m impl.Member) []impl.Slot { return commonSlots(m.Owns, m.Target) })
	l.beatAll(func(m impl.Member) []impl.Slot { return l.told[m.Name] })
	if !impl.Still(l.g) {
		l.t.Fatalf("not still:\n%+v\n%+v", was, l.g)
	}
	owned := map[impl.Slot]int{}
	for i, m := range l.g.Members {
		if !slices.Equal(m.Owns, m.Target) || !slices.Equal(m.Target, was.Members[i].Target) || m.Round != l.g.Round || !slices.Equal(l.told[m.Name], m.Owns) {
			l.t.Fatalf("%+v has not just its Target, or was not told it: %v", m, l.told[m.Name])
		}
		for _, s := range m.Owns {
			owned[s]++
			if !slices.Contains(m.Wants, s.Topic) {
				l.t.Fatalf("%+v does not want %v", m, s)
			}
		}
	}
	for _, topic := range l.g.Topics {
		wanted := slices.ContainsFunc(l.g.Members, func(m impl.Member) bool { return slices.Contains(m.Wants, topic.Name) })
		for part := range topic.Parts {
			if many := owned[impl.Slot{Topic: topic.Name, Part: part}]; wanted && many != 1 || !wanted && many != 0 {
				l.t.Fatalf("%s/%d is owned %d times:\n%+v", topic.Name, part, many, l.g)
			}
		}
	}
}

// Promise 19, of lives at random with members that say anything at all.
func TestNoPartitionIsInTwoOwns(t *testing.T) {
	r := rand.New(rand.NewSource(124))
	for _, kind := range assignKinds {
		codes, moved := [6][4]int{}, 0
		for range 60 {
			l := &life{t: t, r: r, g: impl.NewGroup(kind, pick(r, 2, 10, 30, 1000)), told: map[string][]impl.Slot{}}
			for step := range 120 {
				l.do(l.op())
				if step%20 == 19 {
					l.settle()
				}
			}
			for kind, list := range l.codes {
				for code, many := range list {
					codes[kind][code] += many
				}
			}
			moved += l.moved
		}
		for kind := 1; kind <= 5; kind++ {
			if codes[kind][0] < 200 {
				t.Error("the lives are too much alike:", codes)
			}
		}
		if codes[1][1] < 50 || codes[2][2] < 50 || codes[3][2] < 50 || codes[5][1] < 50 || moved < 1000 {
			t.Error("the lives are too much alike:", codes, moved)
		}
	}
}

// The same with as many members and partitions as may be, that come one by one and go many at once.
func TestManyMembersAndPartitionsSettle(t *testing.T) {
	r := rand.New(rand.NewSource(125))
	for _, kind := range assignKinds {
		l := &life{t: t, r: r, g: impl.NewGroup(kind, 40), told: map[string][]impl.Slot{}}
		for _, topic := range evenTopics(20, 20) {
			l.do(impl.GroupOp{Kind: impl.GroupTopic, Now: l.g.Now, Name: topic.Name, Parts: topic.Parts})
		}
		all := countedNames("t", 20)
		for i, name := range countedNames("m", 31) {
			wants := all
			if i%5 == 4 {
				wants = all[i%3 : 10+i%7]
			}
			told := l.do(impl.GroupOp{Kind: impl.GroupJoin, Now: l.g.Now + 1, Name: name, Wants: wants})
			if (told.Code == impl.GroupDone) != (i < 30) {
				t.Fatalf("%s: %+v", name, told)
			}
			if i%6 == 0 {
				l.settle()
			}
		}
		l.settle()
		for _, i := range []int{3, 4, 5, 20, 28} {
			now := l.g.Now + 30
			l.do(impl.GroupOp{Kind: impl.GroupBeat, Now: now, Name: fmt.Sprintf("m%03d", i)})
		}
		l.do(ticks(l.g.Now))
		if len(l.g.Members) != 2 {
			t.Errorf("kind %d: %d members are left", kind, len(l.g.Members))
		}
		l.settle()
	}
}
