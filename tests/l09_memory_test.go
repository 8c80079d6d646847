package tests

import (
	"math/rand"
	"reflect"
	"slices"
	"testing"

	"loop.example/g00035/impl"
)

// roomyCrew is a copy of members all of whose lists have spare room behind them, filled with what must stay.
func roomyCrew(list []impl.Want) []impl.Want {
	out := slices.Clone(list)
	for i, w := range out {
		out[i].Wants = withRoom(w.Wants, "behind")
		out[i].Has = withRoom(w.Has, impl.Slot{Topic: "behind", Part: -7})
	}
	return withRoom(out, impl.Want{Name: "-7"})
}

// wholeCrew tells members with all that stands in the room behind their lists.
func wholeCrew(list []impl.Want) []impl.Want {
	out := withAllRoom(list)
	for i, w := range out {
		out[i].Wants, out[i].Has = withAllRoom(w.Wants), withAllRoom(w.Has)
	}
	return out
}

func roomyShares(list [][]impl.Slot) [][]impl.Slot {
	out := slices.Clone(list)
	for i, share := range out {
		out[i] = withRoom(share, impl.Slot{Topic: "behind", Part: -7})
	}
	return withRoom(out, nil)
}

func wholeShares(list [][]impl.Slot) [][]impl.Slot {
	out := withAllRoom(list)
	for i, share := range out {
		out[i] = withAllRoom(share)
	}
	return out
}

func TestAssignorsLeaveArgumentsAlone(t *testing.T) {
	r := rand.New(rand.NewSource(118))
	for range 600 {
		topics := randomTopics(r)
		wants := randomCrew(r, topics)
		list, _ := impl.Assign(pick(r, assignKinds...), topics, wants)
		if r.Intn(8) == 0 {
			topics = spoilTopics(r, topics)
		}
		if r.Intn(8) == 0 {
			wants = spoilCrew(r, wants)
		}
		topics, wants, list = withRoom(topics, impl.Topic{Name: "behind", Parts: -7}), roomyCrew(wants), roomyShares(list)
		asTopics, asWants, asList := withAllRoom(topics), wholeCrew(wants), wholeShares(list)
		impl.TopicsOk(topics)
		impl.WantsOk(wants)
		for kind := range 5 {
			impl.Assign(kind, topics, wants)
		}
		impl.Moves(wants, list)
		if !reflect.DeepEqual(withAllRoom(topics), asTopics) || !reflect.DeepEqual(wholeCrew(wants), asWants) || !reflect.DeepEqual(wholeShares(list), asList) {
			t.Fatalf("an argument was changed: %+v %+v %+v", asTopics, asWants, asList)
		}
	}
}

// What lies behind a list's length is not looked at.
func TestAssignorsLookNotBehindTheLength(t *testing.T) {
	r := rand.New(rand.NewSource(119))
	for range 600 {
		topics := randomTopics(r)
		wants := randomCrew(r, topics)
		roomyTopics, roomyWants := withRoom(topics, impl.Topic{Name: "zzz", Parts: 3}), roomyCrew(wants)
		if !impl.TopicsOk(roomyTopics) || !impl.WantsOk(roomyWants) {
			t.Fatalf("refused with room: %+v %+v", topics, wants)
		}
		for _, kind := range assignKinds {
			list, _ := impl.Assign(kind, topics, wants)
			again, ok := impl.Assign(kind, roomyTopics, roomyWants)
			if !ok || sharesText(again) != sharesText(list) || impl.Moves(wants, list) != impl.Moves(roomyWants, roomyShares(list)) {
				t.Fatalf("with room: %s, without: %s", sharesText(again), sharesText(list))
			}
		}
	}
}

func TestAssignorsAnswersAreNewMemory(t *testing.T) {
	r := rand.New(rand.NewSource(120))
	for range 600 {
		topics := withRoom(randomTopics(r), impl.Topic{Name: "behind", Parts: -7})
		wants := roomyCrew(randomCrew(r, topics))
		for _, kind := range assignKinds {
			list, _ := impl.Assign(kind, topics, wants)
			mustBeNew(t, "Assign", list, topics, wants)
		}
	}
}

// Members whose Has is all that they are given have it in memory of their own, even where two share an argument's.
func TestSharesThatStayAreNewMemory(t *testing.T) {
	all := slotsIn("a0 a1 a2 a3")
	wants := crewOf("a", "a")
	wants[0].Has, wants[1].Has = all[:2], all[2:]
	wants[1].Wants = wants[0].Wants
	list := mustShare(t, "all stay", impl.Sticky, "a4", wants, "a0 a1|a2 a3")
	mustBeNew(t, "Assign", list, wants, all)
	list[0][0] = impl.Slot{Topic: "z", Part: 9}
	if all[0] != (impl.Slot{Topic: "a"}) {
		t.Error("the answer is the argument's memory")
	}
	for _, share := range list {
		_ = append(share, impl.Slot{Topic: "z", Part: 9})
	}
	if sharesText(list) != "z9 a1|a2 a3" {
		t.Error("what is put behind one list is in another:", sharesText(list))
	}
}
