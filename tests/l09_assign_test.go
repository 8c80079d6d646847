package tests

import (
	"fmt"
	"math"
	"math/rand"
	"slices"
	"strconv"
	"strings"
	"testing"

	"loop.example/g00035/impl"
)

var assignKinds = []int{impl.ByRange, impl.ByTurns, impl.Sticky}

// sharesText tells shares as crewOf reads slots, with a stroke between members.
func sharesText(list [][]impl.Slot) string {
	texts := []string{}
	for _, share := range list {
		words := []string{}
		for _, s := range share {
			words = append(words, s.Topic+strconv.Itoa(s.Part))
		}
		texts = append(texts, strings.Join(words, " "))
	}
	return strings.Join(texts, "|")
}

func mustShare(t *testing.T, name string, kind int, topics string, wants []impl.Want, want string) [][]impl.Slot {
	t.Helper()
	list, ok := impl.Assign(kind, topicsIn(topics), wants)
	if !ok || len(list) != len(wants) || sharesText(list) != want {
		t.Errorf("%s: %q %v, not %q", name, sharesText(list), ok, want)
	}
	told := assignAsTold(kind, topicsIn(topics), wants)
	if sharesText(told) != want {
		t.Errorf("%s, as told: %q, not %q", name, sharesText(told), want)
	}
	return list
}

// A dealt is a slot and the number of who has it, -1 for nobody.
type dealt struct {
	slot  impl.Slot
	owner int
}

// countsOf tells how many slots each member has.
func countsOf(list []dealt, members int) []int {
	counts := make([]int, members)
	for _, x := range list {
		if x.owner >= 0 {
			counts[x.owner]++
		}
	}
	return counts
}

func wantsTopic(w impl.Want, topic string) bool {
	return slices.Contains(w.Wants, topic)
}

// fewestAsTold tells who of those that want a topic has the fewest slots, the first of such; -1 when nobody wants it.
func fewestAsTold(counts []int, wants []impl.Want, topic string) int {
	best := -1
	for i, w := range wants {
		if wantsTopic(w, topic) && (best < 0 || counts[i] < counts[best]) {
			best = i
		}
	}
	return best
}

func rangeAsTold(list []dealt, topics []impl.Topic, wants []impl.Want) {
	for _, x := range topics {
		who := []int{}
		for i, w := range wants {
			if wantsTopic(w, x.Name) {
				who = append(who, i)
			}
		}
		// Who has a partition follows from how many the members up to him have together.
		for i := range list {
			if list[i].slot.Topic != x.Name {
				continue
			}
			for place := len(who) - 1; place >= 0; place-- {
				if together := (place+1)*(x.Parts/len(who)) + min(place+1, x.Parts%len(who)); list[i].slot.Part < together {
					list[i].owner = who[place]
				}
			}
		}
	}
}

func turnsAsTold(list []dealt, wants []impl.Want) {
	hand := 0
	for i := range list {
		for step := range wants {
			at := (hand + step) % len(wants)
			if wantsTopic(wants[at], list[i].slot.Topic) {
				list[i].owner, hand = at, at+1
				break
			}
		}
	}
}

// stickyMove tells the next slot that moves and to whom, by looking at all of them; -1 when there is none.
func stickyMove(list []dealt, wants []impl.Want) (int, int) {
	counts := countsOf(list, len(wants))
	at, to := -1, -1
	for i, x := range list {
		taker := fewestAsTold(counts, wants, x.slot.Topic)
		if taker < 0 || counts[x.owner]-counts[taker] < 2 {
			continue
		}
		if at < 0 || counts[x.owner] > counts[list[at].owner] || counts[x.owner] == counts[list[at].owner] && x.owner < list[at].owner {
			at, to = i, taker
		}
	}
	return at, to
}

func stickyAsTold(list []dealt, wants []impl.Want) {
	for i, x := range list {
		for at, w := range wants {
			if slices.Contains(w.Has, x.slot) && wantsTopic(w, x.slot.Topic) {
				list[i].owner = at
			}
		}
	}
	for i, x := range list {
		if x.owner < 0 {
			list[i].owner = fewestAsTold(countsOf(list, len(wants)), wants, x.slot.Topic)
		}
	}
	for at, to := stickyMove(list, wants); at >= 0; at, to = stickyMove(list, wants) {
		list[at].owner = to
	}
}

// assignAsTold is the document's rule, slot by slot and without any shortcut, of topics and wants that are right.
func assignAsTold(kind int, topics []impl.Topic, wants []impl.Want) [][]impl.Slot {
	list := []dealt{}
	for _, x := range topics {
		for part := range x.Parts {
			list = append(list, dealt{impl.Slot{Topic: x.Name, Part: part}, -1})
		}
	}
	switch kind {
	case impl.ByRange:
		rangeAsTold(list, topics, wants)
	case impl.ByTurns:
		turnsAsTold(list, wants)
	case impl.Sticky:
		stickyAsTold(list, wants)
	}
	shares := make([][]impl.Slot, len(wants))
	for _, x := range list {
		if x.owner >= 0 {
			shares[x.owner] = append(shares[x.owner], x.slot)
		}
	}
	return shares
}

func TestAssignOfLittle(t *testing.T) {
	for _, kind := range assignKinds {
		name := fmt.Sprint("kind ", kind, ": ")
		mustShare(t, name+"no topics, no members", kind, "", nil, "")
		mustShare(t, name+"no members", kind, "a3 b2", nil, "")
		mustShare(t, name+"no topics", kind, "", crewOf("a", "b / b0"), "|")
		mustShare(t, name+"one slot, one member", kind, "a1", crewOf("a"), "a0")
		mustShare(t, name+"one slot, three members", kind, "a1", crewOf("a", "a", "a"), "a0||")
		mustShare(t, name+"a topic without partitions", kind, "a0", crewOf("a", "a"), "|")
		mustShare(t, name+"one without partitions among others", kind, "a1 b0 c1", crewOf("a b c"), "a0 c0")
		mustShare(t, name+"a topic that nobody wants", kind, "a2 b3 c1", crewOf("a c"), "a0 a1 c0")
		mustShare(t, name+"nobody wants it, though one has of it", kind, "a1 b3", crewOf("a / b0 b1", " / b2"), "a0|")
		mustShare(t, name+"nobody wants anything", kind, "a2 b3", crewOf("", "", ""), "||")
		mustShare(t, name+"a wanted topic that is not among topics", kind, "b2", crewOf("a b c"), "b0 b1")
		mustShare(t, name+"all wanted topics are not among topics", kind, "b2", crewOf("a c", "c"), "|")
		mustShare(t, name+"the first member wants nothing", kind, "a2", crewOf("", "a", "a"), "|a0|a1")
		mustShare(t, name+"one in the middle wants nothing", kind, "a2", crewOf("a", "", "a"), "a0||a1")
		mustShare(t, name+"the last member wants nothing", kind, "a2", crewOf("a", "a", ""), "a0|a1|")
		mustShare(t, name+"each wants a topic of its own", kind, "a2 b1 c3", crewOf("b", "c", "a"), "b0|c0 c1 c2|a0 a1")
	}
}

func TestAssignOfNoKind(t *testing.T) {
	for _, kind := range []int{0, -1, -3, 4, 5, math.MaxInt, math.MinInt} {
		for _, wants := range [][]impl.Want{nil, crewOf("a b", "b"), crewOf("a / a0")} {
			for _, topics := range []string{"", "a3 b2"} {
				if list, ok := impl.Assign(kind, topicsIn(topics), wants); ok || len(list) != 0 {
					t.Errorf("kind %d: %v %v", kind, list, ok)
				}
			}
		}
	}
}

// What a member has is looked at by Sticky alone.
func TestRangeAndTurnsLookNotAtHas(t *testing.T) {
	for _, kind := range []int{impl.ByRange, impl.ByTurns} {
		want := sharesText(assignAsTold(kind, topicsIn("a5 b3"), crewOf("a b", "a", "b")))
		mustShare(t, "with Has", kind, "a5 b3", crewOf("a b / b0 b1", "a / a0 a1 a2 a3 a4", "b / q1"), want)
	}
}

func TestByRange(t *testing.T) {
	mustShare(t, "fewer partitions than members", impl.ByRange, "a2", crewOf("a", "a", "a"), "a0|a1|")
	mustShare(t, "one fewer", impl.ByRange, "a3", crewOf("a", "a", "a", "a"), "a0|a1|a2|")
	mustShare(t, "as many", impl.ByRange, "a3", crewOf("a", "a", "a"), "a0|a1|a2")
	mustShare(t, "one more", impl.ByRange, "a4", crewOf("a", "a", "a"), "a0 a1|a2|a3")
	mustShare(t, "two more", impl.ByRange, "a5", crewOf("a", "a", "a"), "a0 a1|a2 a3|a4")
	mustShare(t, "twice as many", impl.ByRange, "a6", crewOf("a", "a", "a"), "a0 a1|a2 a3|a4 a5")
	mustShare(t, "eleven for four", impl.ByRange, "a11", crewOf("a", "a", "a", "a"), "a0 a1 a2|a3 a4 a5|a6 a7 a8|a9 a10")
	mustShare(t, "one member", impl.ByRange, "a4", crewOf("a"), "a0 a1 a2 a3")
	mustShare(t, "each topic begins anew", impl.ByRange, "a1 b1 c1", crewOf("a b c", "a b c"), "a0 b0 c0|")
	mustShare(t, "uneven topics", impl.ByRange, "a3 b5", crewOf("a b", "a b"), "a0 a1 b0 b1 b2|a2 b3 b4")
	mustShare(t, "some each", impl.ByRange, "a3 b4 c2", crewOf("a b", "b c", "a", "a b c"), "a0 b0 b1|b2 c0|a1|a2 b3 c1")
	mustShare(t, "the first does not want it", impl.ByRange, "a3", crewOf("b", "a", "a"), "|a0 a1|a2")
	mustShare(t, "the one in the middle does not", impl.ByRange, "a3", crewOf("a", "b", "a"), "a0 a1||a2")
	list, _ := impl.Assign(impl.ByRange, topicsIn("a50"), crewOf(slices.Repeat([]string{"a"}, 30)...))
	for i, share := range list {
		first, count := 2*i, 2
		if i >= 20 {
			first, count = 20+i, 1
		}
		if len(share) != count || share[0].Part != first {
			t.Errorf("50 for 30: member %d has %v", i, share)
		}
	}
}

func TestByTurns(t *testing.T) {
	mustShare(t, "around", impl.ByTurns, "a7", crewOf("a", "a", "a"), "a0 a3 a6|a1 a4|a2 a5")
	mustShare(t, "the hand goes on from topic to topic", impl.ByTurns, "a1 b1 c2", crewOf("a b c", "a b c", "a b c"), "a0 c1|b0|c0")
	mustShare(t, "and over one without partitions", impl.ByTurns, "a1 b0 c1", crewOf("a b c", "a b c"), "a0|c0")
	mustShare(t, "and over one that nobody wants", impl.ByTurns, "a1 b3 c2", crewOf("a c", "a c", "a c"), "a0|c0|c1")
	mustShare(t, "it passes over who does not want it", impl.ByTurns, "a2 b1", crewOf("a", "b", "a b"), "a0|b0|a1")
	mustShare(t, "from the hand on, not from the front", impl.ByTurns, "a1 b1", crewOf("a b", "c", "b", "b"), "a0||b0|")
	mustShare(t, "it stands behind the one that got it", impl.ByTurns, "a1 b1 c1", crewOf("c", "c", "a b", "b c"), "c0||a0|b0")
	mustShare(t, "around to one that is passed", impl.ByTurns, "a1 b2", crewOf("b", "a b", "c"), "b0|a0 b1|")
	mustShare(t, "one alone gets all, and the hand stands behind him", impl.ByTurns, "a3 b2", crewOf("b", "a", "b", "b"), "|a0 a1 a2|b0|b1")
	mustShare(t, "behind the last one is the first", impl.ByTurns, "a2 b1", crewOf("b", "a b"), "b0|a0 a1")
	mustShare(t, "uneven where wants are unlike", impl.ByTurns, "a2 b4", crewOf("a b", "b"), "a0 a1 b1 b3|b0 b2")
}

func TestStickyKeeps(t *testing.T) {
	mustShare(t, "all stay", impl.Sticky, "a2 b2", crewOf("a b / a1 b0", "a b / a0 b1"), "a1 b0|a0 b1")
	mustShare(t, "unlike by one stays", impl.Sticky, "a3", crewOf("a / a2", "a / a0 a1"), "a2|a0 a1")
	mustShare(t, "the last has one more", impl.Sticky, "a4", crewOf("a / a3", "a / a1", "a / a0 a2"), "a3|a1|a0 a2")
	mustShare(t, "wants it no more", impl.Sticky, "a1 b2", crewOf("b / a0", "a b / b0"), "b1|a0 b0")
	mustShare(t, "wants it no more, nor does another", impl.Sticky, "a1 b2", crewOf("b / a0 b1", "b / b0"), "b1|b0")
	mustShare(t, "wants it no more, and gets another", impl.Sticky, "a1 b2", crewOf("b / a0", "a / ", "b / b0 b1"), "b0|a0|b1")
	mustShare(t, "a topic that is gone", impl.Sticky, "a2", crewOf("a z / a1 z0 z1", "a / a0 q7"), "a1|a0")
	mustShare(t, "gone slots do not count as a member's", impl.Sticky, "a3", crewOf("a z / z0 z1 z2", "a / a1"), "a0 a2|a1")
	mustShare(t, "a Part just in", impl.Sticky, "a3", crewOf("a / ", "a / a2"), "a0 a1|a2")
	mustShare(t, "a Part just beyond", impl.Sticky, "a3", crewOf("a / ", "a / a3"), "a0 a2|a1")
	mustShare(t, "unwanted slots do not count as a member's", impl.Sticky, "a2 b3", crewOf("a / b0 b1 b2", "a b / "), "a0 a1|b0 b1 b2")
	mustShare(t, "has what nobody wants", impl.Sticky, "a2 b1", crewOf("a / b0", "a"), "a0|a1")
}

func TestStickyGivesWhatNobodyHas(t *testing.T) {
	mustShare(t, "to the first of the fewest", impl.Sticky, "a1", crewOf("a", "a", "a"), "a0||")
	mustShare(t, "in order, one by one", impl.Sticky, "a5", crewOf("a", "a", "a"), "a0 a3|a1 a4|a2")
	mustShare(t, "to the one with the fewest", impl.Sticky, "a6", crewOf("a / a0 a1", "a / a2", "a / a4 a5"), "a0 a1|a2 a3|a4 a5")
	mustShare(t, "the fewest by then", impl.Sticky, "a6", crewOf("a / a5", "a", "a / a4"), "a1 a5|a0 a2|a3 a4")
	mustShare(t, "the first in the middle of such", impl.Sticky, "a5", crewOf("a / a3 a4", "a / a1", "a / a2"), "a3 a4|a0 a1|a2")
	mustShare(t, "of those that want it", impl.Sticky, "a3 b1", crewOf("a / a0", "a b / a1 a2", "a"), "a0|a2 b0|a1")
	mustShare(t, "topic by topic", impl.Sticky, "a1 b1 c1", crewOf("a b c / b0", "a b c"), "b0 c0|a0")
	mustShare(t, "shares are in order again", impl.Sticky, "B1 a3 b12", crewOf("B a b / a1 b10", "b / b0 b1 b2 b3 b4 b5 b6 b7 b8 b9 b11"), "B0 a0 a1 a2 b0 b1 b2 b10|b3 b4 b5 b6 b7 b8 b9 b11")
}

func TestStickyMovesFrom(t *testing.T) {
	mustShare(t, "two fewer", impl.Sticky, "a2", crewOf("a / a0 a1", "a"), "a1|a0")
	mustShare(t, "one fewer", impl.Sticky, "a1", crewOf("a / ", "a / a0"), "|a0")
	mustShare(t, "three fewer: one moves", impl.Sticky, "a3", crewOf("a", "a / a0 a1 a2"), "a0|a1 a2")
	mustShare(t, "four fewer: two move", impl.Sticky, "a4", crewOf("a", "a / a0 a1 a2 a3"), "a0 a1|a2 a3")
	mustShare(t, "the first of those with the most", impl.Sticky, "a7", crewOf("a / a0 a1 a2", "a / a3 a4 a5", "a / a6"), "a1 a2|a3 a4 a5|a0 a6")
	mustShare(t, "the first, behind the one with few", impl.Sticky, "a7", crewOf("a / a6", "a / a3 a4 a5", "a / a0 a1 a2"), "a3 a6|a4 a5|a0 a1 a2")
	mustShare(t, "the one with the most, not the first", impl.Sticky, "a9", crewOf("a / a0 a1 a2", "a / a3 a4 a5 a6", "a / a7 a8"), "a0 a1 a2|a4 a5 a6|a3 a7 a8")
	mustShare(t, "then the other one with the most", impl.Sticky, "a6", crewOf("a / a0 a1 a2", "a / a3 a4 a5", "a"), "a1 a2|a4 a5|a0 a3")
	mustShare(t, "the most can give nothing", impl.Sticky, "a5 b3", crewOf("a / a0 a1 a2 a3 a4", "b / b0 b1 b2", "b"), "a0 a1 a2 a3 a4|b1 b2|b0")
	mustShare(t, "the most can give nothing, behind", impl.Sticky, "a5 b3", crewOf("b", "b / b0 b1 b2", "a / a0 a1 a2 a3 a4"), "b0|b1 b2|a0 a1 a2 a3 a4")
	mustShare(t, "the most can give nothing: all that want it have one fewer", impl.Sticky, "a4 b3 c3", crewOf("a / a0 a1 a2 a3", "a b / b0 b1 b2", "c / c0 c1 c2", "c"), "a0 a1 a2 a3|b0 b1 b2|c1 c2|c0")
	mustShare(t, "alike, but the first can give nothing", impl.Sticky, "a3 b3", crewOf("a / a0 a1 a2", "b / b0 b1 b2", "b"), "a0 a1 a2|b1 b2|b0")
	mustShare(t, "nobody can give anything", impl.Sticky, "a5 b3", crewOf("a / a0 a1 a2 a3 a4", "b / b0 b1 b2", "c"), "a0 a1 a2 a3 a4|b0 b1 b2|")
}

func TestStickyMovesTo(t *testing.T) {
	mustShare(t, "the first slot that can go", impl.Sticky, "a1 b2", crewOf("a b / a0 b0 b1", "b"), "a0 b1|b0")
	mustShare(t, "slots in the middle", impl.Sticky, "a1 b2 c1", crewOf("a b c / a0 b0 b1 c0", "b"), "a0 c0|b0 b1")
	mustShare(t, "the last slot alone", impl.Sticky, "a2 b1", crewOf("a b / a0 a1 b0", "b"), "a0 a1|b0")
	mustShare(t, "the first by Topic, not by Part", impl.Sticky, "a2 b1", crewOf("a b / a1 b0", "a b", "a / a0"), "b0|a1|a0")
	mustShare(t, "the first of those with the fewest", impl.Sticky, "a3", crewOf("a / a0 a1 a2", "a", "a"), "a2|a0|a1")
	mustShare(t, "the one with the fewest, not the first", impl.Sticky, "a5", crewOf("a / a0 a1 a2", "a / a3 a4", "a"), "a1 a2|a3 a4|a0")
	mustShare(t, "of those that want it", impl.Sticky, "a3", crewOf("a / a0 a1 a2", "b", "a"), "a1 a2||a0")
	mustShare(t, "the first slot, though another could go to one with fewer", impl.Sticky, "a4 b2", crewOf("a b / a0 a1 b0 b1", "a / a2 a3", "b"), "a1 b1|a0 a2 a3|b0")
	mustShare(t, "a slot that came goes on", impl.Sticky, "a8 b7", crewOf("a / a0 a1 a2 a3 a4 a5 a6 a7", "a", "a b / b0 b1 b2 b3 b4 b5 b6", "b", "b", "b"), "a5 a6 a7|a1 a2 a3|a0 a4 b6|b0 b3|b1 b4|b2 b5")
}

// Members that say what they were given are given it again.
func TestStickyAgainMovesNothing(t *testing.T) {
	r := rand.New(rand.NewSource(112))
	for range 2000 {
		topics := randomTopics(r)
		wants := randomCrew(r, topics)
		list, _ := impl.Assign(impl.Sticky, topics, wants)
		for i := range wants {
			wants[i].Has = list[i]
		}
		again, ok := impl.Assign(impl.Sticky, topics, wants)
		if !ok || sharesText(again) != sharesText(list) || impl.Moves(wants, again) != 0 {
			t.Fatalf("%+v %+v: %s and again %s", topics, wants, sharesText(list), sharesText(again))
		}
	}
}

func TestAssignIsAsTold(t *testing.T) {
	r := rand.New(rand.NewSource(113))
	for range 6000 {
		topics := randomTopics(r)
		wants := randomCrew(r, topics)
		for _, kind := range assignKinds {
			list, ok := impl.Assign(kind, topics, wants)
			told := assignAsTold(kind, topics, wants)
			if !ok || len(list) != len(wants) || sharesText(list) != sharesText(told) {
				t.Fatalf("kind %d, %+v %+v: %s, not %s", kind, topics, wants, sharesText(list), sharesText(told))
			}
		}
	}
}

// Wants in a chain, where each member shares a topic with the next one alone: what one end has too much goes far.
func TestStickyAlongChains(t *testing.T) {
	r := rand.New(rand.NewSource(114))
	for range 300 {
		topics := evenTopics(2+r.Intn(7), pick(r, 3, 7, 12, 50))
		wants := manyMembers(len(topics) + 1)
		for i := range wants {
			wants[i].Wants = nil
			for _, x := range topics[max(i-1, 0):min(i+1, len(topics))] {
				wants[i].Wants = append(wants[i].Wants, x.Name)
			}
		}
		if r.Intn(2) == 0 {
			handOut(r, topics, wants)
		}
		list, ok := impl.Assign(impl.Sticky, topics, wants)
		if told := assignAsTold(impl.Sticky, topics, wants); !ok || sharesText(list) != sharesText(told) {
			t.Fatalf("%+v %+v: %s, not %s", topics, wants, sharesText(list), sharesText(told))
		}
	}
}

// With the most of everything an answer comes all the same.
func TestAssignOfTheMost(t *testing.T) {
	topics := evenTopics(20, 20)
	wants := manyMembers(30)
	for i := range wants {
		wants[i].Wants = countedNames("t", 20)
	}
	for _, x := range topics {
		for part := range x.Parts {
			wants[29].Has = append(wants[29].Has, impl.Slot{Topic: x.Name, Part: part})
		}
	}
	for _, kind := range assignKinds {
		list, ok := impl.Assign(kind, topics, wants)
		if told := assignAsTold(kind, topics, wants); !ok || sharesText(list) != sharesText(told) {
			t.Errorf("kind %d: %s, not %s", kind, sharesText(list), sharesText(told))
		}
	}
	if list, _ := impl.Assign(impl.Sticky, topics, wants); impl.Moves(wants, list) != 386 {
		t.Error("of 400 slots one of 30 keeps 14, not", 400-impl.Moves(wants, list))
	}
}
