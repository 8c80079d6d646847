package tests

import (
	"fmt"
	"math"
	"math/rand"
	"slices"
	"strings"
	"testing"

	"loop.example/g00035/impl"
)

// doGroupAsTold is the document's rule; what an op does is done to a copy, which is thrown away where it may not be.
func doGroupAsTold(g impl.Group, op impl.GroupOp) (impl.Group, impl.GroupTold) {
	if !groupOkAsTold(g) {
		return impl.Group{}, impl.GroupTold{Code: 1}
	}
	x := plainGroup(g)
	code, newRound := actGroupAsTold(&x, op)
	x.Now = op.Now
	if code == 0 && newRound {
		x.Round++
		for i, share := range assignAsTold(x.Kind, x.Topics, groupWants(x, ownsOf)) {
			x.Members[i].Target = share
		}
		if x.Round > 1000000000 {
			code = 3
		}
	}
	if code != 0 {
		return plainGroup(g), impl.GroupTold{Code: code, Round: g.Round}
	}
	told := impl.GroupTold{Round: x.Round}
	for _, m := range x.Members {
		if m.Name == op.Name && (op.Kind == 1 || op.Kind == 2) {
			told.Owns = commonSlots(m.Owns, m.Target)
		}
	}
	return x, told
}

// commonSlots are those of the first list that are in the second one.
func commonSlots(list []impl.Slot, other []impl.Slot) []impl.Slot {
	var both []impl.Slot
	for _, s := range list {
		if slices.Contains(other, s) {
			both = append(both, s)
		}
	}
	return both
}

// actGroupAsTold tells a code, and whether a new round follows.
func actGroupAsTold(x *impl.Group, op impl.GroupOp) (int, bool) {
	at := slices.IndexFunc(x.Members, func(m impl.Member) bool { return m.Name == op.Name })
	if op.Kind < 1 || op.Kind > 5 || op.Now > 1000000000000 || op.Now < x.Now {
		return 1, false
	}
	if op.Kind != 4 && !impl.NameOk(op.Name) {
		return 1, false
	}
	switch op.Kind {
	case 1:
		return joinGroupAsTold(x, at, op)
	case 2:
		return beatGroupAsTold(x, at, op)
	case 3:
		if at < 0 {
			return 2, false
		}
		x.Members = append(x.Members[:at:at], x.Members[at+1:]...)
		return 0, true
	case 4:
		stay := []impl.Member{}
		for _, m := range x.Members {
			if m.Beat+x.Timeout >= op.Now {
				stay = append(stay, m)
			}
		}
		fewer := len(stay) < len(x.Members)
		x.Members = stay
		return 0, fewer
	}
	return topicGroupAsTold(x, op)
}

func joinGroupAsTold(x *impl.Group, at int, op impl.GroupOp) (int, bool) {
	if !wantsOkAsTold([]impl.Want{{Name: "x", Wants: op.Wants}}) || op.Static != "" && !impl.NameOk(op.Static) {
		return 1, false
	}
	bearer := slices.IndexFunc(x.Members, func(m impl.Member) bool { return op.Static != "" && m.Static == op.Static })
	if at < 0 {
		at = bearer
	} else if bearer >= 0 && bearer != at {
		return 1, false
	}
	had := at >= 0
	if !had {
		if len(x.Members) >= 30 {
			return 3, false
		}
		at = len(x.Members)
		x.Members = append(x.Members, impl.Member{})
	}
	m := x.Members[at]
	newRound := !had || !slices.Equal(m.Wants, op.Wants)
	m.Name, m.Static, m.Beat, m.Wants = op.Name, op.Static, op.Now, append([]string(nil), op.Wants...)
	x.Members[at] = m
	slices.SortFunc(x.Members, func(a, b impl.Member) int { return strings.Compare(a.Name, b.Name) })
	return 0, newRound
}

func beatGroupAsTold(x *impl.Group, at int, op impl.GroupOp) (int, bool) {
	if !wantsOkAsTold([]impl.Want{{Name: "x", Has: op.Owns}}) {
		return 1, false
	}
	if at < 0 {
		return 2, false
	}
	m := &x.Members[at]
	m.Owns = commonSlots(m.Owns, op.Owns)
	for _, s := range m.Target {
		if !slices.ContainsFunc(x.Members, func(m impl.Member) bool { return slices.Contains(m.Owns, s) }) {
			m.Owns = append(m.Owns, s)
		}
	}
	slices.SortFunc(m.Owns, func(a, b impl.Slot) int {
		if slotAhead(a, b) {
			return -1
		}
		return 1
	})
	m.Beat = op.Now
	if slices.Equal(m.Owns, m.Target) {
		m.Round = x.Round
	}
	return 0, false
}

func topicGroupAsTold(x *impl.Group, op impl.GroupOp) (int, bool) {
	parts := map[string]int{}
	for _, topic := range x.Topics {
		parts[topic.Name] = topic.Parts
	}
	had, known := parts[op.Name]
	if op.Parts < 0 || op.Parts > 50 || op.Parts < had {
		return 1, false
	}
	parts[op.Name] = op.Parts
	x.Topics = nil
	all := 0
	for name, count := range parts {
		x.Topics = append(x.Topics, impl.Topic{Name: name, Parts: count})
		all += count
	}
	slices.SortFunc(x.Topics, func(a, b impl.Topic) int { return strings.Compare(a.Name, b.Name) })
	if len(parts) > 20 || all > 400 {
		return 3, false
	}
	return 0, !known || had != op.Parts
}

func sameGroupTold(a impl.GroupTold, b impl.GroupTold) bool {
	return a.Code == b.Code && a.Round == b.Round && slices.Equal(a.Owns, b.Owns)
}

// mustGroup: the op is done, these slots are told, and the group is then at the op's Now, and else as it was but for these changes.
func mustGroup(t *testing.T, name string, g impl.Group, op impl.GroupOp, owns string, changes ...groupChange) impl.Group {
	t.Helper()
	want := changed(g, changes...)
	want.Now = op.Now
	told := impl.GroupTold{Round: want.Round, Owns: slotsIn(owns)}
	x, got := impl.DoGroup(g, op)
	if !sameGroupTold(got, told) || !sameGroup(x, want) || !impl.GroupOk(x) {
		t.Errorf("%s: %+v, not %+v:\n%+v, not\n%+v", name, got, told, x, want)
	}
	mustBeAsTold(t, name, g, op)
	return x
}

// mustNotGroup: what is refused leaves the group as it was.
func mustNotGroup(t *testing.T, name string, g impl.Group, op impl.GroupOp, code int) {
	t.Helper()
	if !impl.GroupOk(g) {
		t.Errorf("%s: the group to try is not right", name)
	}
	x, got := impl.DoGroup(g, op)
	if !sameGroupTold(got, impl.GroupTold{Code: code, Round: g.Round}) || !sameGroup(x, g) {
		t.Errorf("%s: %+v, not %d:\n%+v, not\n%+v", name, got, code, x, g)
	}
	mustBeAsTold(t, name, g, op)
}

func mustBeAsTold(t *testing.T, name string, g impl.Group, op impl.GroupOp) {
	t.Helper()
	x, told := impl.DoGroup(g, op)
	want, wantTold := doGroupAsTold(g, op)
	if !sameGroupTold(told, wantTold) || !sameGroup(x, want) {
		t.Errorf("%s: %+v, as told %+v:\n%+v, as told\n%+v", name, told, wantTold, x, want)
	}
}

// round is a new round with these targets, in the members' order: "a0 a1|a3".
func round(targets string) groupChange {
	return func(g *impl.Group) {
		g.Round++
		for i, share := range sharesIn(targets)[:len(g.Members)] {
			g.Members[i].Target = share
		}
	}
}

func membersAre(do func(list []impl.Member) []impl.Member) groupChange {
	return func(g *impl.Group) { g.Members = do(g.Members) }
}

// arriving puts a member in at a place.
func arriving(at int, m impl.Member) groupChange {
	return membersAre(func(list []impl.Member) []impl.Member { return slices.Insert(list, at, m) })
}

func leaving(at int) groupChange {
	return membersAre(func(list []impl.Member) []impl.Member { return slices.Delete(list, at, at+1) })
}

// movingTo has the member at a place stand at another one.
func movingTo(at int, to int) groupChange {
	return membersAre(func(list []impl.Member) []impl.Member {
		m := list[at]
		return slices.Insert(slices.Delete(list, at, at+1), to, m)
	})
}

func joins(name string, static string, wants ...string) impl.GroupOp {
	return impl.GroupOp{Kind: impl.GroupJoin, Now: 110, Name: name, Static: static, Wants: wants}
}

func beats(name string, owns string) impl.GroupOp {
	return impl.GroupOp{Kind: impl.GroupBeat, Now: 110, Name: name, Owns: slotsIn(owns)}
}

func leaves(name string) impl.GroupOp {
	return impl.GroupOp{Kind: impl.GroupLeave, Now: 110, Name: name}
}

func ticks(now int) impl.GroupOp {
	return impl.GroupOp{Kind: impl.GroupTick, Now: now}
}

func topicGets(name string, parts int) impl.GroupOp {
	return impl.GroupOp{Kind: impl.GroupTopic, Now: 110, Name: name, Parts: parts}
}

// oneOfEach are ops that are done to the club, of each kind.
func oneOfEach() []impl.GroupOp {
	return []impl.GroupOp{joins("m9", "", "a"), joins("m1", "s1", "a", "b"), joins("m1", "s1"), joins("m9", "s1", "a", "b"), joins("m9", "s1"),
		beats("m1", "a0"), beats("m2", ""), leaves("m2"), ticks(110), ticks(150), topicGets("c", 2), topicGets("a", 6), topicGets("a", 7)}
}

func TestClubIsOfARound(t *testing.T) {
	g := club()
	if s := sharesText(assignAsTold(g.Kind, g.Topics, groupWants(g, ownsOf))); s != "a0 a1|a3 a4 a5|a2 b0" {
		t.Error("the club's targets are", s)
	}
	for _, op := range oneOfEach() {
		if _, told := impl.DoGroup(g, op); told.Code != impl.GroupDone {
			t.Errorf("%+v: %+v", op, told)
		}
		mustBeAsTold(t, "one of each", g, op)
	}
}

func TestGroupOpsOfNoKind(t *testing.T) {
	for _, kind := range []int{0, 6, 7, -1, math.MinInt, math.MaxInt} {
		for _, op := range oneOfEach() {
			op.Kind = kind
			mustNotGroup(t, fmt.Sprint("kind ", kind), club(), op, impl.GroupBad)
		}
	}
}

func TestGroupOpsAtATime(t *testing.T) {
	for _, op := range oneOfEach() {
		name := fmt.Sprintf("%+v", op)
		for _, now := range []int{100, 101, impl.MaxTime - 1, impl.MaxTime} {
			op.Now = now
			x, told := impl.DoGroup(club(), op)
			if told.Code != impl.GroupDone || x.Now != now {
				t.Errorf("%s at %d: %+v %+v", name, now, told, x)
			}
			mustBeAsTold(t, name, club(), op)
		}
		for _, now := range []int{99, 0, -1, impl.MaxTime + 1, math.MinInt, math.MaxInt} {
			op.Now = now
			mustNotGroup(t, name, club(), op, impl.GroupBad)
		}
		op.Now = 0
		if _, told := impl.DoGroup(impl.NewGroup(impl.ByTurns, 5), op); told.Code == impl.GroupBad {
			t.Errorf("%s at 0: %+v", name, told)
		}
		op.Now = impl.MaxTime
		last := changed(club(), nowIs(impl.MaxTime))
		if x, told := impl.DoGroup(last, op); told.Code != impl.GroupDone || x.Now != impl.MaxTime {
			t.Errorf("%s at the end of times: %+v", name, told)
		}
		op.Now--
		mustNotGroup(t, name, last, op, impl.GroupBad)
	}
}

func TestGroupOpsOfNoName(t *testing.T) {
	for _, name := range noNames {
		for _, op := range oneOfEach() {
			op.Name = name
			if op.Kind != impl.GroupTick {
				mustNotGroup(t, fmt.Sprintf("%d of %q", op.Kind, name), club(), op, impl.GroupBad)
				continue
			}
			x, told := impl.DoGroup(club(), op)
			op.Name = ""
			want, wantTold := impl.DoGroup(club(), op)
			if !sameGroup(x, want) || !sameGroupTold(told, wantTold) || told.Code != impl.GroupDone {
				t.Errorf("a tick of %q: %+v", name, told)
			}
		}
	}
	for _, name := range []string{"m1", "q", "Z_9"} {
		op := ticks(140)
		op.Name = name
		mustGroup(t, "a tick of a member's name", club(), op, "", leaving(0), leaving(1), round("a0 a1 a2 a3 a4 a5"))
	}
	// Ahead of what is not there stands that it is no name.
	mustNotGroup(t, "no name, no member", impl.NewGroup(impl.Sticky, 1), beats("", ""), impl.GroupBad)
}

// Where a new round is needed and Rounds are at their end, nothing is done; where none is, all is.
func TestTheLastRound(t *testing.T) {
	for _, op := range oneOfEach() {
		name := fmt.Sprintf("%+v", op)
		_, told := impl.DoGroup(club(), op)
		needed := told.Round == 8
		if !needed && told.Round != 7 {
			t.Errorf("%s: %+v", name, told)
		}
		x, told := impl.DoGroup(changed(club(), roundIs(impl.MaxOffset-1)), op)
		if told.Code != impl.GroupDone || needed != (told.Round == impl.MaxOffset) || x.Round != told.Round {
			t.Errorf("%s ahead of the last round: %+v", name, told)
		}
		last := changed(club(), roundIs(impl.MaxOffset))
		if needed {
			mustNotGroup(t, name, last, op, impl.GroupFull)
			continue
		}
		if x, told := impl.DoGroup(last, op); told.Code != impl.GroupDone || told.Round != impl.MaxOffset || x.Now != op.Now {
			t.Errorf("%s in the last round: %+v", name, told)
		}
		mustBeAsTold(t, name, last, op)
	}
	last := changed(club(), roundIs(impl.MaxOffset))
	mustNotGroup(t, "another's Static in the last round", last, joins("m2", "s1", "b"), impl.GroupBad)
	mustNotGroup(t, "fewer Parts in the last round", last, topicGets("a", 5), impl.GroupBad)
	mustNotGroup(t, "nobody in the last round", last, leaves("m9"), impl.GroupNone)
}

func TestNewMembersJoin(t *testing.T) {
	comes := func(name string, static string, wants ...string) impl.Member {
		return impl.Member{Name: name, Static: static, Wants: wants, Beat: 110}
	}
	mustGroup(t, "the first of all", impl.NewGroup(impl.Sticky, 5), joins("m", "", "a"), "", arriving(0, comes("m", "", "a")), round(""))
	mustGroup(t, "at the front", club(), joins("a", "", "a"), "", arriving(0, comes("a", "", "a")), round("a2 a3|a0 a1|a4 a5|b0"))
	mustGroup(t, "in the middle", club(), joins("m10", "", "b"), "", arriving(1, comes("m10", "", "b")), round("a0 a1|b0|a4 a5|a2 a3"))
	mustGroup(t, "at the end", club(), joins("m9", "s9", "a", "b"), "", arriving(3, comes("m9", "s9", "a", "b")), round("a0 a1|a4 a5|a3 b0|a2"))
	mustGroup(t, "that wants nothing", club(), joins("m9", "s9"), "", arriving(3, comes("m9", "s9")), round("a0 a1|a3 a4 a5|a2 b0|"))
	mustGroup(t, "that wants what is no topic", club(), joins("m9", "", "q"), "", arriving(3, comes("m9", "", "q")), round("a0 a1|a3 a4 a5|a2 b0|"))
	mustGroup(t, "by ranges", changed(club(), kindIs(impl.ByRange)), joins("a", "", "a"), "", arriving(0, comes("a", "", "a")), round("a0 a1|a2 a3 b0|a4|a5"))
	mustGroup(t, "by turns", changed(club(), kindIs(impl.ByTurns)), joins("a", "", "b"), "", arriving(0, comes("a", "", "b")), round("b0|a0 a3|a1 a4|a2 a5"))
	mustGroup(t, "with a member's Name as Static", club(), joins("m9", "m1"), "", arriving(3, comes("m9", "m1")), round("a0 a1|a3 a4 a5|a2 b0|"))
	mustGroup(t, "with a Static as Name", club(), joins("s1", ""), "", arriving(3, comes("s1", "")), round("a0 a1|a3 a4 a5|a2 b0|"))
	most := strings.Repeat("z", 20)
	mustGroup(t, "with long names", club(), joins(most, most, most), "", arriving(3, comes(most, most, most)), round("a0 a1|a3 a4 a5|a2 b0|"))
	names := countedNames("t", 20)
	mustGroup(t, "that wants most", club(), joins("m9", "", names...), "", arriving(3, comes("m9", "", names...)), round("a0 a1|a3 a4 a5|a2 b0|"))
}

func TestMembersUpToMaxMembers(t *testing.T) {
	x := changed(club(), crowded(29))
	y, told := impl.DoGroup(x, joins("z", "s", "a"))
	if told.Code != impl.GroupDone || len(y.Members) != 30 {
		t.Errorf("the last that may come: %+v", told)
	}
	mustNotGroup(t, "one more", y, joins("zz", "", "a"), impl.GroupFull)
	mustNotGroup(t, "one more at the front", y, joins("a", "s2", "a"), impl.GroupFull)
	mustNotGroup(t, "one more of no Wants that are right", y, joins("a", "", "b", "a"), impl.GroupBad)
	mustNotGroup(t, "one more with a Static that is no name", y, joins("a", "s-", "a"), impl.GroupBad)
	for _, op := range []impl.GroupOp{joins("m003", "", "a"), joins("m003", "s3", "b"), joins("z", "s", "a"), joins("zz", "s", "a"), joins("a", "s"), leaves("z"), topicGets("c", 1)} {
		if _, told := impl.DoGroup(y, op); told.Code != impl.GroupDone {
			t.Errorf("%+v of a full group: %+v", op, told)
		}
		mustBeAsTold(t, "a full group", y, op)
	}
}

func TestMembersJoinAgain(t *testing.T) {
	mustGroup(t, "with the same", club(), joins("m1", "s1", "a", "b"), "a0 a1", beatAt(0, 110))
	mustGroup(t, "that has not all of its Target", club(), joins("m3", "s3", "a", "b"), "", beatAt(2, 110))
	mustGroup(t, "that has more than its Target", club(), joins("m2", "", "a"), "a3 a4 a5", beatAt(1, 110))
	mustGroup(t, "with another Static", club(), joins("m1", "t", "a", "b"), "a0 a1", beatAt(0, 110), statics("t"))
	mustGroup(t, "with a first Static", club(), joins("m2", "t", "a"), "a3 a4 a5", beatAt(1, 110), statics("s1", "t"))
	mustGroup(t, "without its Static", club(), joins("m1", "", "a", "b"), "a0 a1", beatAt(0, 110), statics(""))
	mustGroup(t, "with other Wants", club(), joins("m1", "s1", "b"), "", beatAt(0, 110), asking(0, "b"), round("b0|a3 a4 a5|a0 a1 a2"))
	mustGroup(t, "with more Wants", club(), joins("m2", "", "a", "b"), "a3 a4 a5", beatAt(1, 110), asking(1, "a", "b"), round("a0 a1|a3 a4 a5|a2 b0"))
	mustGroup(t, "with fewer Wants", club(), joins("m3", "s3", "a"), "", beatAt(2, 110), asking(2, "a"), round("a1 b0|a3 a4 a5|a0 a2"))
	mustGroup(t, "with no Wants", club(), joins("m1", "s1"), "", beatAt(0, 110), asking(0), round("|a2 a3 a4 a5|a0 a1 b0"))
	mustGroup(t, "with other Wants and Static", club(), joins("m1", "t", "a"), "a0 a1", beatAt(0, 110), statics("t"), asking(0, "a"), round("a0 a1|a3 a4 a5|a2 b0"))
	mustGroup(t, "with Wants of the same bytes", changed(club(), asking(0, "a", "bc")), joins("m1", "s1", "ab", "c"), "", beatAt(0, 110), asking(0, "ab", "c"), round("|a2 a3 a4 a5|a0 a1 b0"))
	for _, name := range []string{"m2", "m3"} {
		mustNotGroup(t, name+" with another's Static", club(), joins(name, "s1", "a", "b"), impl.GroupBad)
		mustNotGroup(t, name+" with another's Static and other Wants", club(), joins(name, "s1", "q"), impl.GroupBad)
	}
	mustNotGroup(t, "with the Static of one behind", club(), joins("m1", "s3", "a", "b"), impl.GroupBad)
	mustNotGroup(t, "with another's Static, though its own is empty", club(), joins("m2", "s3", "a"), impl.GroupBad)
	x := mustGroup(t, "two without a Static", club(), joins("m3", "", "a", "b"), "", beatAt(2, 110), statics("s1", "", ""))
	mustGroup(t, "a Static that was given up", x, joins("m2", "s3", "a"), "a3 a4 a5", beatAt(1, 110), statics("s1", "s3"))
}

func TestMembersComeBackByTheirStatic(t *testing.T) {
	mustGroup(t, "at the end", club(), joins("m9", "s1", "a", "b"), "a0 a1", calling(0, "m9"), beatAt(0, 110), movingTo(0, 2))
	mustGroup(t, "in the middle", club(), joins("m25", "s1", "a", "b"), "a0 a1", calling(0, "m25"), beatAt(0, 110), movingTo(0, 1))
	mustGroup(t, "where it stood", club(), joins("m11", "s1", "a", "b"), "a0 a1", calling(0, "m11"), beatAt(0, 110))
	mustGroup(t, "at the front", club(), joins("a", "s3", "a", "b"), "", calling(2, "a"), beatAt(2, 110), movingTo(2, 0))
	mustGroup(t, "by its Static as Name", club(), joins("s1", "s1", "a", "b"), "a0 a1", calling(0, "s1"), beatAt(0, 110), movingTo(0, 2))
	mustGroup(t, "with other Wants", club(), joins("m9", "s1", "a"), "a0 a1", calling(0, "m9"), beatAt(0, 110), asking(0, "a"), movingTo(0, 2), round("a3 a4 a5|a2 b0|a0 a1"))
	mustGroup(t, "with no Wants", club(), joins("m9", "s1"), "", calling(0, "m9"), beatAt(0, 110), asking(0), movingTo(0, 2), round("a2 a3 a4 a5|a0 a1 b0|"))
	// By ranges another order would give other targets, but there is no new round.
	g := changed(club(), kindIs(impl.ByRange))
	mustGroup(t, "by ranges", g, joins("m9", "s1", "a", "b"), "a0 a1", calling(0, "m9"), beatAt(0, 110), movingTo(0, 2))
	x := mustGroup(t, "that was m1", club(), joins("m9", "s1", "a", "b"), "a0 a1", calling(0, "m9"), beatAt(0, 110), movingTo(0, 2))
	mustNotGroup(t, "the old Name beats", x, beats("m1", "a0 a1"), impl.GroupNone)
	mustNotGroup(t, "the old Name leaves", x, leaves("m1"), impl.GroupNone)
	mustGroup(t, "the old Name is back", x, joins("m1", "s1", "a", "b"), "a0 a1", calling(2, "m1"), movingTo(2, 0))
	mustGroup(t, "the new Name beats", x, beats("m9", "a0 a1"), "a0 a1")
	if y, told := impl.DoGroup(x, joins("m1", "", "a", "b")); told.Code != impl.GroupDone || len(y.Members) != 4 {
		t.Errorf("the old Name without a Static: %+v %+v", told, y)
	}
}

func TestJoinsThatAreBad(t *testing.T) {
	for _, name := range []string{"m1", "m9"} {
		for _, bad := range noNames {
			if bad != "" {
				mustNotGroup(t, fmt.Sprintf("%s with the Static %q", name, bad), club(), joins(name, bad, "a", "b"), impl.GroupBad)
			}
			mustNotGroup(t, fmt.Sprintf("%s that wants %q", name, bad), club(), joins(name, "s1", bad), impl.GroupBad)
			mustNotGroup(t, fmt.Sprintf("%s that wants a and %q", name, bad), club(), joins(name, "", "a", bad), impl.GroupBad)
		}
		mustNotGroup(t, name+" with Wants that fall", club(), joins(name, "", "b", "a"), impl.GroupBad)
		mustNotGroup(t, name+" with a want twice", club(), joins(name, "", "a", "a"), impl.GroupBad)
		mustNotGroup(t, name+" with too many Wants", club(), joins(name, "", countedNames("t", 21)...), impl.GroupBad)
	}
	// What a join does not need is not looked at.
	op := joins("m1", "s1", "a", "b")
	op.Owns, op.Parts = []impl.Slot{{Part: -1}, {Part: -2}}, -5
	mustGroup(t, "with Owns and Parts", club(), op, "a0 a1", beatAt(0, 110))
}

func TestBeats(t *testing.T) {
	mustGroup(t, "that says what it has", club(), beats("m1", "a0 a1"), "a0 a1", beatAt(0, 110))
	mustGroup(t, "that says all, more than its Target", club(), beats("m2", "a2 a3 a4 a5"), "a3 a4 a5", beatAt(1, 110))
	mustGroup(t, "that gives up what it must", club(), beats("m2", "a3 a4 a5"), "a3 a4 a5", beatAt(1, 110), owningOf(1, "a3 a4 a5"), roundOf(1, 7))
	mustGroup(t, "that gets what is free", club(), beats("m3", ""), "b0", beatAt(2, 110), owningOf(2, "b0"))
	mustGroup(t, "that says what another has", club(), beats("m3", "a2"), "b0", beatAt(2, 110), owningOf(2, "b0"))
	mustGroup(t, "that says what is free", club(), beats("m3", "b0"), "b0", beatAt(2, 110), owningOf(2, "b0"))
	mustGroup(t, "that says what is nowhere", club(), beats("m3", "q0 z49"), "b0", beatAt(2, 110), owningOf(2, "b0"))
	mustGroup(t, "that says all there is", club(), beats("m1", "a0 a1 a2 a3 a4 a5 b0"), "a0 a1", beatAt(0, 110))
	// What it has, does not say and is to have comes free, and to it again.
	mustGroup(t, "that says nothing", club(), beats("m1", ""), "a0 a1", beatAt(0, 110))
	mustGroup(t, "that says one of two", club(), beats("m1", "a1"), "a0 a1", beatAt(0, 110))
	mustGroup(t, "that gives all up", club(), beats("m2", ""), "a3 a4 a5", beatAt(1, 110), owningOf(1, "a3 a4 a5"), roundOf(1, 7))
	mustGroup(t, "that gives up the wrong ones", club(), beats("m2", "a2"), "a3 a4 a5", beatAt(1, 110))
	mustGroup(t, "that keeps one more", club(), beats("m2", "a2 a4"), "a3 a4 a5", beatAt(1, 110))
	op := beats("m1", "")
	op.Now = 100
	mustGroup(t, "at the group's Now", club(), op, "a0 a1", beatAt(0, 100))
	op = beats("m1", "a0 a1")
	op.Static, op.Wants, op.Parts = "-", []string{"b", "a"}, -5
	mustGroup(t, "with what it does not need", club(), op, "a0 a1", beatAt(0, 110))
}

func TestBeatsOneByOne(t *testing.T) {
	x := mustGroup(t, "m2 still has a2", club(), beats("m3", ""), "b0", beatAt(2, 110), owningOf(2, "b0"))
	x = mustGroup(t, "m2 gives a2 up", x, beats("m2", "a3 a4 a5"), "a3 a4 a5", beatAt(1, 110), owningOf(1, "a3 a4 a5"), roundOf(1, 7))
	if impl.Still(x) {
		t.Error("still, though a2 is free")
	}
	x = mustGroup(t, "m3 gets a2", x, beats("m3", "b0"), "a2 b0", owningOf(2, "a2 b0"), roundOf(2, 7))
	if !impl.Still(x) {
		t.Error("not still")
	}
	x = mustGroup(t, "once more", x, beats("m3", "a2 b0"), "a2 b0")
	// A round behind it its Round stays until it has its Target again.
	x = mustGroup(t, "a round more", x, topicGets("c", 1), "", func(g *impl.Group) { g.Topics = topicsIn("a6 b1 c1") }, round("a0 a1|a3 a4 a5|a2 b0"))
	x = mustGroup(t, "m3 beats in it", x, beats("m3", "a2 b0"), "a2 b0", roundOf(2, 8))
	mustGroup(t, "m1 beats in it", x, beats("m1", "a0 a1"), "a0 a1", beatAt(0, 110), roundOf(0, 8))
}

// A member with no Target has it as soon as it has nothing.
func TestBeatsOfWhoIsToHaveNothing(t *testing.T) {
	g := changed(club(), asking(0), aiming(0))
	mustGroup(t, "that keeps all", g, beats("m1", "a0 a1"), "", beatAt(0, 110))
	mustGroup(t, "that keeps one", changed(g, roundOf(0, 3)), beats("m1", "a1"), "", beatAt(0, 110), owningOf(0, "a1"), roundOf(0, 3))
	mustGroup(t, "that keeps none", changed(g, roundOf(0, 3)), beats("m1", ""), "", beatAt(0, 110), owning(0), roundOf(0, 7))
	// The Part as a number, and slots that come stand among those that stay.
	g = changed(club(), aimingOf(0, "a0 a9 a10 a20 b3"), owningOf(0, "a0 a10 z1"))
	mustGroup(t, "among others", g, beats("m1", "a0 a10 z1"), "a0 a9 a10 a20 b3", beatAt(0, 110), owningOf(0, "a0 a9 a10 a20 b3 z1"))
	mustGroup(t, "that has z1 no more", g, beats("m1", "a0 a10"), "a0 a9 a10 a20 b3", beatAt(0, 110), owningOf(0, "a0 a9 a10 a20 b3"))
}

func TestBeatsThatAreRefused(t *testing.T) {
	mustNotGroup(t, "no such member", club(), beats("m9", ""), impl.GroupNone)
	mustNotGroup(t, "a Static", club(), beats("s1", "a0"), impl.GroupNone)
	mustNotGroup(t, "nobody is there", impl.NewGroup(impl.Sticky, 200), beats("m1", "a0"), impl.GroupNone)
	bad := map[string][]impl.Slot{
		"slots that fall by Topic": slotsIn("b0 a0"),
		"slots that fall by Part":  slotsIn("a0 a2 a1"),
		"Parts as texts":           slotsIn("a10 a9"),
		"a slot twice":             slotsIn("a0 a0"),
		"too many":                 manySlots("s", 401),
		"Part -1":                  {{Topic: "a", Part: -1}},
		"Part beyond":              {{Topic: "a", Part: 0}, {Topic: "a", Part: 50}},
		"greatest Part":            {{Topic: "a", Part: math.MaxInt}},
	}
	for _, name := range noNames {
		bad[fmt.Sprintf("of %q", name)] = []impl.Slot{{Topic: name}}
	}
	for name, owns := range bad {
		for _, who := range []string{"m1", "m2", "m3", "m9"} {
			op := beats(who, "")
			op.Owns = owns
			mustNotGroup(t, who+": "+name, club(), op, impl.GroupBad)
		}
	}
	op := beats("m1", "")
	op.Owns = manySlots("s", 400)
	mustGroup(t, "most slots", club(), op, "a0 a1", beatAt(0, 110))
	op.Owns = slotsIn("a0 a49")
	mustGroup(t, "the greatest Part", club(), op, "a0 a1", beatAt(0, 110))
}

func TestLeaves(t *testing.T) {
	mustGroup(t, "the first", club(), leaves("m1"), "", leaving(0), round("a2 a3 a4 a5|a0 a1 b0"))
	mustGroup(t, "the middle one", club(), leaves("m2"), "", leaving(1), round("a0 a1 a4 b0|a2 a3 a5"))
	mustGroup(t, "the last", club(), leaves("m3"), "", leaving(2), round("a0 a1 b0|a2 a3 a4 a5"))
	mustGroup(t, "the only one", changed(club(), crowded(1)), leaves("m000"), "", leaving(0), round(""))
	for _, name := range []string{"m", "m4", "s1", "M1", "a"} {
		mustNotGroup(t, name, club(), leaves(name), impl.GroupNone)
	}
	mustNotGroup(t, "nobody is there", changed(club(), crowded(0)), leaves("m1"), impl.GroupNone)
	x, _ := impl.DoGroup(club(), leaves("m1"))
	mustNotGroup(t, "again", x, leaves("m1"), impl.GroupNone)
	// Nobody has what it had.
	mustGroup(t, "what was free and what it had", x, beats("m3", ""), "a0 a1 b0", owningOf(1, "a0 a1 b0"), beatAt(1, 110), roundOf(1, 8))
	if y, told := impl.DoGroup(x, joins("m1", "s1", "a")); told.Code != impl.GroupDone || len(y.Members[0].Owns) != 0 || y.Members[0].Round != 0 {
		t.Errorf("whoever left and joins has something: %+v", y.Members[0])
	}
	op := leaves("m1")
	op.Static, op.Wants, op.Owns, op.Parts = "-", []string{"b", "a"}, []impl.Slot{{Part: -1}}, -5
	mustGroup(t, "with what it does not need", club(), op, "", leaving(0), round("a2 a3 a4 a5|a0 a1 b0"))
}

func TestTicks(t *testing.T) {
	mustGroup(t, "none goes", club(), ticks(100), "")
	mustGroup(t, "just Timeout ahead", club(), ticks(110), "")
	mustGroup(t, "one more", club(), ticks(111), "", leaving(0), round("a2 a3 a4 a5|a0 a1 b0"))
	mustGroup(t, "the next just Timeout ahead", club(), ticks(130), "", leaving(0), round("a2 a3 a4 a5|a0 a1 b0"))
	mustGroup(t, "two go", club(), ticks(131), "", leaving(0), leaving(1), round("a0 a1 a2 a3 a4 a5"))
	mustGroup(t, "the last just Timeout ahead", club(), ticks(150), "", leaving(0), leaving(1), round("a0 a1 a2 a3 a4 a5"))
	mustGroup(t, "all go", club(), ticks(151), "", leaving(0), leaving(0), leaving(0), round(""))
	mustGroup(t, "the first and the last go", changed(club(), beatAt(0, 10), beatAt(2, 49)), ticks(100), "", leaving(0), leaving(1), round("a0 a1 a2 a3 a4 a5"))
	mustGroup(t, "the middle one goes", changed(club(), beatAt(1, 0)), ticks(100), "", leaving(1), round("a0 a1 a4 b0|a2 a3 a5"))
	mustGroup(t, "nobody is there", changed(club(), crowded(0)), ticks(impl.MaxTime), "")
	mustGroup(t, "Timeout 1", changed(club(), timeoutIs(1), beatAt(0, 99), beatAt(2, 99)), ticks(100), "")
	mustGroup(t, "greatest Timeout", changed(club(), timeoutIs(impl.MaxTime), beatAt(0, 0)), ticks(impl.MaxTime), "")
	mustGroup(t, "one less", changed(club(), timeoutIs(impl.MaxTime-1), beatAt(0, 0)), ticks(impl.MaxTime), "", leaving(0), round("a2 a3 a4 a5|a0 a1 b0"))
	x := mustGroup(t, "none goes, again", club(), ticks(110), "")
	mustGroup(t, "and later", x, ticks(111), "", leaving(0), round("a2 a3 a4 a5|a0 a1 b0"))
	// Other ops let nobody go, however late it is.
	for _, op := range []impl.GroupOp{beats("m1", "a0 a1"), joins("m1", "s1", "a", "b"), topicGets("a", 6)} {
		op.Now = impl.MaxTime
		if x, told := impl.DoGroup(club(), op); told.Code != impl.GroupDone || len(x.Members) != 3 {
			t.Errorf("%+v: %+v %+v", op, told, x)
		}
	}
	op := ticks(111)
	op.Static, op.Wants, op.Owns, op.Parts = "-", []string{"b", "a"}, []impl.Slot{{Part: -1}}, -5
	mustGroup(t, "with what it does not need", club(), op, "", leaving(0), round("a2 a3 a4 a5|a0 a1 b0"))
}

func TestTopicsOfAGroup(t *testing.T) {
	mustGroup(t, "a new one at the end", club(), topicGets("c", 2), "", topicsAre("a6 b1 c2"), round("a0 a1|a3 a4 a5|a2 b0"))
	mustGroup(t, "a new one in the middle", club(), topicGets("aa", 2), "", topicsAre("a6 aa2 b1"), round("a0 a1|a3 a4 a5|a2 b0"))
	mustGroup(t, "a new one at the front", club(), topicGets("A", 2), "", topicsAre("A2 a6 b1"), round("a0 a1|a3 a4 a5|a2 b0"))
	mustGroup(t, "a new one without partitions", club(), topicGets("c", 0), "", topicsAre("a6 b1 c0"), round("a0 a1|a3 a4 a5|a2 b0"))
	mustGroup(t, "a new one that is wanted", changed(club(), asking(0, "a", "b", "c")), topicGets("c", 2), "", topicsAre("a6 b1 c2"), round("a1 c0 c1|a3 a4 a5|a0 a2 b0"))
	mustGroup(t, "the first of all", impl.NewGroup(impl.ByRange, 1), topicGets("c", 50), "", topicsAre("c50"), roundIs(1))
	mustGroup(t, "one more", club(), topicGets("b", 2), "", topicsAre("a6 b2"), round("a0 a1 a2|a3 a4 a5|b0 b1"))
	mustGroup(t, "most", club(), topicGets("b", 50), "", topicsAre("a6 b50"), func(g *impl.Group) {
		for i, share := range assignAsTold(g.Kind, g.Topics, groupWants(*g, ownsOf)) {
			g.Members[i].Target = share
		}
		g.Round++
	})
	mustGroup(t, "as many", club(), topicGets("a", 6), "")
	mustGroup(t, "as many, of the last", club(), topicGets("b", 1), "")
	mustGroup(t, "as many as none", changed(club(), topicsAre("a6 b1 c0")), topicGets("c", 0), "")
	mustNotGroup(t, "one fewer", club(), topicGets("a", 5), impl.GroupBad)
	mustNotGroup(t, "none", club(), topicGets("b", 0), impl.GroupBad)
	for _, name := range []string{"a", "b", "c"} {
		for _, parts := range []int{-1, 51, math.MinInt, math.MaxInt} {
			mustNotGroup(t, fmt.Sprint(name, " with ", parts), club(), topicGets(name, parts), impl.GroupBad)
		}
	}
	// Slots beyond the Parts are owned still, and come back into what is given.
	g := changed(club(), owningOf(0, "a0 a7"))
	mustGroup(t, "Parts that some have already", g, topicGets("a", 8), "", topicsAre("a8 b1"), round("a0 a7 b0|a3 a4 a5|a1 a2 a6"))
	op := topicGets("b", 2)
	op.Static, op.Wants, op.Owns = "-", []string{"b", "a"}, []impl.Slot{{Part: -1}}
	mustGroup(t, "with what it does not need", club(), op, "", topicsAre("a6 b2"), round("a0 a1 a2|a3 a4 a5|b0 b1"))
}

func TestTopicsOfAGroupUpToTheirLimits(t *testing.T) {
	empty := impl.NewGroup(impl.Sticky, 5)
	many := changed(empty, func(g *impl.Group) { g.Topics = evenTopics(19, 1) })
	x := mustGroup(t, "the last topic", many, topicGets("z", 1), "", func(g *impl.Group) { g.Topics = append(g.Topics, impl.Topic{Name: "z", Parts: 1}) }, roundIs(1))
	mustNotGroup(t, "one more topic", x, topicGets("zz", 1), impl.GroupFull)
	mustNotGroup(t, "one more topic at the front", x, topicGets("a", 0), impl.GroupFull)
	mustNotGroup(t, "one more topic with too many Parts", x, topicGets("a", 51), impl.GroupBad)
	mustNotGroup(t, "one more topic with Parts below 0", x, topicGets("a", -1), impl.GroupBad)
	mustGroup(t, "more Parts of a known one", x, topicGets("z", 50), "", func(g *impl.Group) { g.Topics[19].Parts = 50 }, roundIs(2))
	mustGroup(t, "as many Parts of a known one", x, topicGets("z", 1), "")
	big := changed(empty, func(g *impl.Group) { g.Topics = append(evenTopics(7, 50), topicsIn("u40 v9")...) })
	y := mustGroup(t, "the last partition", big, topicGets("v", 10), "", func(g *impl.Group) { g.Topics[8].Parts = 10 }, roundIs(1))
	mustGroup(t, "the last partition in a new topic", big, topicGets("z", 1), "", func(g *impl.Group) { g.Topics = append(g.Topics, impl.Topic{Name: "z", Parts: 1}) }, roundIs(1))
	mustNotGroup(t, "two more", big, topicGets("v", 11), impl.GroupFull)
	mustNotGroup(t, "two more in a new topic", big, topicGets("z", 2), impl.GroupFull)
	mustNotGroup(t, "one more", y, topicGets("v", 11), impl.GroupFull)
	mustNotGroup(t, "one more in a new topic", y, topicGets("z", 1), impl.GroupFull)
	mustNotGroup(t, "one more of the first", y, topicGets("u", 41), impl.GroupFull)
	mustNotGroup(t, "fewer", y, topicGets("v", 9), impl.GroupBad)
	mustGroup(t, "as many", y, topicGets("v", 10), "")
	mustGroup(t, "none in a new topic", y, topicGets("z", 0), "", func(g *impl.Group) { g.Topics = append(g.Topics, impl.Topic{Name: "z"}) }, roundIs(2))
}

// groupOpFor is an op that fits a group mostly, of whoever is in it or of others.
func groupOpFor(r *rand.Rand, g impl.Group) impl.GroupOp {
	op := impl.GroupOp{Kind: 1 + r.Intn(5), Now: min(g.Now+pick(r, 0, 0, 1, 5, 21), impl.MaxTime), Name: pick(r, "m000", "m001", "m003", "a", "m0005", "z"), Parts: pick(r, 0, 1, 2, 5, 50)}
	if op.Kind == impl.GroupTopic {
		op.Name = pick(r, "B", "a", "a10", "b", "c", "t005", "zz")
	}
	op.Static = pick(r, "", "", "s3", "s4", "s5", "s9")
	for _, name := range []string{"B", "a", "a1", "b", "c"} {
		if r.Intn(2) == 0 {
			op.Wants = append(op.Wants, name)
		}
	}
	if len(g.Members) > 0 {
		m := g.Members[r.Intn(len(g.Members))]
		if op.Kind != impl.GroupTopic {
			op.Name = pick(r, m.Name, m.Name, op.Name)
		}
		op.Static, op.Wants = pick(r, op.Static, m.Static), pick(r, op.Wants, m.Wants)
		op.Owns = pick(r, m.Owns, m.Target, commonSlots(m.Owns, m.Target), g.Members[0].Owns, slotsIn("a0 a1 b0 z3"), nil)
	}
	return op
}

// spoilGroupOp changes one thing of an op, mostly so that it may not be.
func spoilGroupOp(r *rand.Rand, g impl.Group, op impl.GroupOp) impl.GroupOp {
	switch r.Intn(7) {
	case 0:
		op.Kind = pick(r, -1, 0, 6, 1+r.Intn(5))
	case 1:
		op.Now = pick(r, -1, g.Now-1, g.Now, impl.MaxTime, impl.MaxTime+1)
	case 2:
		op.Name = pick(r, noNames...)
	case 3:
		op.Static = pick(r, noNames...)
	case 4:
		op.Wants = append(slices.Clone(op.Wants), pick(r, pick(r, noNames...), "a", "zz"))
	case 5:
		op.Owns = append(slices.Clone(op.Owns), impl.Slot{Topic: pick(r, pick(r, noNames...), "a", "zz"), Part: pick(r, -1, 0, 49, 50)})
	case 6:
		op.Parts = pick(r, -1, 51, 50, 49)
	}
	return op
}

func TestDoGroupIsAsTold(t *testing.T) {
	r := rand.New(rand.NewSource(122))
	counts := [6][4]int{}
	for range 4000 {
		g := randomGroup(r)
		if r.Intn(20) == 0 {
			g = spoilGroup(r, g)
		}
		op := groupOpFor(r, g)
		if r.Intn(4) == 0 {
			op = spoilGroupOp(r, g, op)
		}
		x, told := impl.DoGroup(g, op)
		want, wantTold := doGroupAsTold(g, op)
		if !sameGroupTold(told, wantTold) || !sameGroup(x, want) {
			t.Fatalf("%+v of %+v:\n%+v, not %+v:\n%+v, not\n%+v", op, g, told, wantTold, x, want)
		}
		if told.Code == impl.GroupDone && !impl.GroupOk(x) {
			t.Fatalf("%+v: not right: %+v", op, x)
		}
		if inBounds(op.Kind, 0, 5) {
			counts[op.Kind][told.Code]++
		}
	}
	for kind := 1; kind <= 5; kind++ {
		if counts[kind][0] < 100 || counts[kind][1] < 20 {
			t.Error("the ops to try are too much alike:", counts)
		}
	}
	if counts[1][3] < 20 || counts[2][2] < 20 || counts[3][2] < 20 || counts[3][3] < 20 || counts[5][3] < 20 {
		t.Error("the ops to try are too much alike:", counts)
	}
}
