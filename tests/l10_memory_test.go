package tests

import (
	"math/rand"
	"reflect"
	"slices"
	"testing"

	"loop.example/g00035/impl"
)

var slotBehind = impl.Slot{Topic: "behind", Part: -7}

// roomyGroup is a copy of a group all of whose lists have spare room behind them, filled with what must stay.
func roomyGroup(g impl.Group) impl.Group {
	g = plainGroup(g)
	for i, m := range g.Members {
		m.Wants, m.Owns, m.Target = withRoom(m.Wants, "behind"), withRoom(m.Owns, slotBehind), withRoom(m.Target, slotBehind)
		g.Members[i] = m
	}
	g.Topics, g.Members = withRoom(g.Topics, impl.Topic{Name: "behind", Parts: -7}), withRoom(g.Members, impl.Member{Name: "-7"})
	return g
}

// wholeGroup tells a group with all that stands in the room behind its lists.
func wholeGroup(g impl.Group) impl.Group {
	g.Topics, g.Members = withAllRoom(g.Topics), withAllRoom(g.Members)
	for i, m := range g.Members {
		m.Wants, m.Owns, m.Target = withAllRoom(m.Wants), withAllRoom(m.Owns), withAllRoom(m.Target)
		g.Members[i] = m
	}
	return g
}

func roomyGroupOps(ops []impl.GroupOp) []impl.GroupOp {
	out := slices.Clone(ops)
	for i, op := range out {
		out[i].Wants, out[i].Owns = withRoom(op.Wants, "behind"), withRoom(op.Owns, slotBehind)
	}
	return withRoom(out, impl.GroupOp{Kind: -7})
}

func wholeGroupOps(ops []impl.GroupOp) []impl.GroupOp {
	out := withAllRoom(ops)
	for i, op := range out {
		out[i].Wants, out[i].Owns = withAllRoom(op.Wants), withAllRoom(op.Owns)
	}
	return out
}

// groupOpsFor are ops that follow on each other from a group on, some of which are refused.
func groupOpsFor(r *rand.Rand, g impl.Group, count int) []impl.GroupOp {
	ops := []impl.GroupOp{}
	for range count {
		op := groupOpFor(r, g)
		if r.Intn(6) == 0 {
			op = spoilGroupOp(r, g, op)
		}
		g, _ = impl.DoGroup(g, op)
		ops = append(ops, op)
	}
	return ops
}

func TestGroupsLeaveArgumentsAlone(t *testing.T) {
	r := rand.New(rand.NewSource(128))
	for range 400 {
		g := randomGroup(r)
		if r.Intn(10) == 0 {
			g = spoilGroup(r, g)
		}
		ops := roomyGroupOps(groupOpsFor(r, g, 1+r.Intn(8)))
		g = roomyGroup(g)
		as, asOps := wholeGroup(g), wholeGroupOps(ops)
		impl.GroupOk(g)
		impl.Still(g)
		impl.RunGroup(g, ops)
		for _, op := range ops {
			impl.DoGroup(g, op)
		}
		if !reflect.DeepEqual(wholeGroup(g), as) || !reflect.DeepEqual(wholeGroupOps(ops), asOps) {
			t.Fatalf("an argument was changed: %+v %+v", as, asOps)
		}
	}
}

// What lies behind a list's length is not looked at.
func TestGroupsLookNotBehindTheLength(t *testing.T) {
	r := rand.New(rand.NewSource(129))
	for range 400 {
		g := randomGroup(r)
		ops := groupOpsFor(r, g, 1+r.Intn(8))
		x, list := impl.RunGroup(g, ops)
		y, again := impl.RunGroup(roomyGroup(g), roomyGroupOps(ops))
		if !sameGroup(x, y) || !slices.EqualFunc(list, again, sameGroupTold) || !impl.GroupOk(roomyGroup(g)) || impl.Still(g) != impl.Still(roomyGroup(g)) {
			t.Fatalf("RunGroup with room: %+v %+v, without: %+v %+v", again, y, list, x)
		}
		for _, op := range ops {
			x, told := impl.DoGroup(g, op)
			y, again := impl.DoGroup(roomyGroup(g), roomyGroupOps([]impl.GroupOp{op})[0])
			if !sameGroup(x, y) || !sameGroupTold(told, again) {
				t.Fatalf("DoGroup with room: %+v %+v, without: %+v %+v", again, y, told, x)
			}
		}
	}
}

func TestGroupsAnswersAreNewMemory(t *testing.T) {
	r := rand.New(rand.NewSource(130))
	type answer struct {
		Group impl.Group
		Told  impl.GroupTold
	}
	type answers struct {
		Group impl.Group
		Told  []impl.GroupTold
	}
	for range 400 {
		g := roomyGroup(randomGroup(r))
		ops := roomyGroupOps(groupOpsFor(r, g, 1+r.Intn(8)))
		x, list := impl.RunGroup(g, ops)
		mustBeNew(t, "RunGroup", answers{x, list}, g, ops)
		x, list = impl.RunGroup(g, nil)
		mustBeNew(t, "RunGroup of nothing", answers{x, list}, g)
		for _, op := range ops {
			y, told := impl.DoGroup(g, op)
			mustBeNew(t, "DoGroup", answer{y, told}, g, op)
		}
	}
}

// Lists that an argument has twice, or that stand one behind the other in its memory, are lists of their own in an answer.
func TestListsOfAGroupShareNothing(t *testing.T) {
	all := slotsIn("a0 a1 a2 a3 a4 a5")
	names := []string{"a", "b"}
	g := changed(club(), owning(0, all[:2]...), aiming(0, all[:2]...), owning(1, all[2:]...), aiming(1, all[3:]...))
	for i := range g.Members {
		g.Members[i].Wants = names
	}
	for _, op := range oneOfEach() {
		if op.Kind == impl.GroupJoin {
			op.Wants = names[:len(op.Wants)]
		}
		if op.Kind == impl.GroupBeat {
			op.Owns = all
		}
		x, told := impl.DoGroup(g, op)
		if told.Code != impl.GroupDone {
			t.Errorf("%+v: %+v", op, told)
		}
		mustBeNew(t, "DoGroup", struct {
			Group impl.Group
			Told  impl.GroupTold
		}{x, told}, g, op, all, names)
		for _, m := range x.Members {
			_ = append(m.Owns, slotBehind)
			_ = append(m.Target, slotBehind)
			_ = append(m.Wants, "behind")
		}
		_ = append(told.Owns, slotBehind)
		if again, toldAgain := impl.DoGroup(g, op); !sameGroup(x, again) || !sameGroupTold(told, toldAgain) {
			t.Errorf("what is put behind one list is in another: %+v", x)
		}
	}
	if sharesText([][]impl.Slot{all}) != "a0 a1 a2 a3 a4 a5" || !slices.Equal(names, []string{"a", "b"}) {
		t.Error("an argument was changed:", all, names)
	}
}

func TestOffsetsLeaveTheLogAlone(t *testing.T) {
	r := rand.New(rand.NewSource(131))
	for range 200 {
		l := roomyLog(keyLog(r))
		if len(l.Segments) > 0 && len(l.Segments[0].Batches) > 0 && l.Segments[0].Batches[0].Flags < impl.FlagMark {
			x := &l.Segments[0].Batches[0].Records[0]
			x.Keyed, x.Key, x.Gone, x.Value = true, "g/a/1", false, "5"
		}
		as := wholeLog(l)
		list := impl.Committed(l, "g")
		mustBeNew(t, "Committed", list, l)
		if !reflect.DeepEqual(wholeLog(l), as) {
			t.Fatalf("an argument was changed: %+v", as)
		}
		if again := impl.Committed(plainLog(l), "g"); !slices.Equal(list, again) {
			t.Fatalf("with room %s, without %s", posText(list), posText(again))
		}
	}
}
