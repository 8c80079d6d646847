package tests

import (
	"math/rand"
	"slices"
	"strings"
	"testing"

	"loop.example/g00035/impl"
)

// sharesIn reads shares as sharesText tells them.
func sharesIn(text string) [][]impl.Slot {
	list := [][]impl.Slot{}
	for _, share := range strings.Split(text, "|") {
		list = append(list, slotsIn(share))
	}
	return list
}

func mustMove(t *testing.T, name string, wants []impl.Want, list [][]impl.Slot, want int) {
	t.Helper()
	if n := impl.Moves(wants, list); n != want {
		t.Errorf("%s: %d, not %d", name, n, want)
	}
	if n := movesAsTold(wants, list); n != want {
		t.Errorf("%s, as told: %d, not %d", name, n, want)
	}
}

// movesAsTold holds each slot of a Has against each list.
func movesAsTold(wants []impl.Want, list [][]impl.Slot) int {
	if len(wants) != len(list) || !wantsOkAsTold(wants) {
		return -1
	}
	count := 0
	for i, w := range wants {
		for _, s := range w.Has {
			another, none := false, true
			for j, share := range list {
				if slices.Contains(share, s) {
					another, none = another || j != i, false
				}
			}
			if another || none {
				count++
			}
		}
	}
	return count
}

func TestMoves(t *testing.T) {
	three := crewOf("a b / a0 a2 b10", "b / b0 b2", "z")
	mustMove(t, "nobody", nil, nil, 0)
	mustMove(t, "nobody, an empty list", []impl.Want{}, [][]impl.Slot{}, 0)
	mustMove(t, "nobody has anything", crewOf("a", "b"), sharesIn("a0 a1|b0"), 0)
	mustMove(t, "all stay", three, sharesIn("a0 a2 b10|b0 b2|"), 0)
	mustMove(t, "all stay, and others come", three, sharesIn("a0 a1 a2 b10|a3 b0 b2 z0|z1"), 0)
	mustMove(t, "one goes to another", three, sharesIn("a0 b10|b0 b2|a2"), 1)
	mustMove(t, "one goes to one that has some", three, sharesIn("a0 b10|a2 b0 b2|"), 1)
	mustMove(t, "two change places", three, sharesIn("a0 a2 b2|b0 b10|"), 2)
	mustMove(t, "one goes to none", three, sharesIn("a0 a2|b0 b2|"), 1)
	mustMove(t, "some to another, some to none", three, sharesIn("a2|b0|a0"), 3)
	mustMove(t, "all go to none", three, sharesIn("||"), 5)
	mustMove(t, "all go to another", three, sharesIn("b0 b2|a0 a2 b10|"), 5)
	mustMove(t, "all go to one that had nothing", three, sharesIn("||a0 a2 b0 b2 b10"), 5)
	mustMove(t, "other Parts of the topics", three, sharesIn("a1 a3 b1|b3 b20|"), 5)
	mustMove(t, "the same Parts of another topic", three, sharesIn("c0 c2 c10|c1|"), 5)
	mustMove(t, "lists that are not in order", three, sharesIn("b10 a2 a0|b2 b0|"), 0)
	mustMove(t, "a list with a slot twice", three, sharesIn("a0 a0 a2 b10|b0 b2 b2|"), 0)
	mustMove(t, "one twice with another", three, sharesIn("a0 b10|b0 b2|a2 a2"), 1)
	mustMove(t, "one that stays is with another too", three, sharesIn("a0 a2 b10|b0 b2|a2"), 1)
	mustMove(t, "and with one ahead", three, sharesIn("a0 a2 b0 b10|b0 b2|"), 1)
	mustMove(t, "one is with two others", three, sharesIn("a2 b10|a0 b0 b2|a0"), 1)
	mustMove(t, "slots that are none", crewOf("a / a0"), [][]impl.Slot{{{Topic: "", Part: -1}, {Topic: "a", Part: 99}}}, 1)
	mustMove(t, "of topics that are not wanted", crewOf("a / z0 z1", "a"), sharesIn("z0|"), 1)
}

func TestMovesOfAnotherLength(t *testing.T) {
	two := crewOf("a / a0", "a / a1")
	for _, text := range []string{"a0", "", "a0|a1|", "a0|a1|a2", "|||"} {
		mustMove(t, text, two, sharesIn(text), -1)
	}
	mustMove(t, "none", two, nil, -1)
	mustMove(t, "none, an empty list", two, [][]impl.Slot{}, -1)
	mustMove(t, "one more than nobody", nil, sharesIn(""), -1)
	mustMove(t, "what is not right", crewOf("a / a0", "a / a0"), sharesIn("a0|"), -1)
	mustMove(t, "what is not right, another length", crewOf("a / a1 a0"), nil, -1)
}

func TestMovesAreAsTold(t *testing.T) {
	r := rand.New(rand.NewSource(117))
	counts := map[string]int{}
	for range 4000 {
		topics := randomTopics(r)
		wants := randomCrew(r, topics)
		list, _ := impl.Assign(pick(r, assignKinds...), topics, wants)
		switch r.Intn(8) {
		case 0:
			wants = spoilCrew(r, wants)
		case 1:
			list = append(list, nil)
		case 2:
			list = list[:len(list)-min(1, len(list))]
		case 3:
			r.Shuffle(len(list), func(i, j int) { list[i], list[j] = list[j], list[i] })
		case 4:
			list = append(slices.Clone(list[len(list)/2:]), list[:len(list)/2]...)
		case 5:
			for i := range list {
				list[i] = append(list[i], list[r.Intn(i+1)]...)
			}
		}
		want := movesAsTold(wants, list)
		if n := impl.Moves(wants, list); n != want {
			t.Fatalf("%+v %v: %d, not %d", wants, list, n, want)
		}
		switch {
		case want < 0:
			counts["refused"]++
		case want == 0:
			counts["none"]++
		default:
			counts["some"]++
		}
	}
	if counts["refused"] < 300 || counts["none"] < 300 || counts["some"] < 300 {
		t.Error("what is tried is too much alike:", counts)
	}
}
