package tests

import (
	"math/rand"
	"slices"
	"strconv"
	"testing"

	"loop.example/g00035/impl"
)

// mustGiveOnce: P17, and that each member's slots are in order.
func mustGiveOnce(t *testing.T, kind int, topics []impl.Topic, wants []impl.Want) [][]impl.Slot {
	t.Helper()
	list, ok := impl.Assign(kind, topics, wants)
	if !ok || len(list) != len(wants) {
		t.Fatalf("kind %d, %+v %+v: %v", kind, topics, wants, ok)
	}
	times := map[impl.Slot]int{}
	for i, share := range list {
		for j, s := range share {
			times[s]++
			if !wantsTopic(wants[i], s.Topic) || j > 0 && !slotAhead(share[j-1], s) {
				t.Fatalf("kind %d, %+v %+v: %s has %v", kind, topics, wants, wants[i].Name, share)
			}
		}
	}
	for _, x := range topics {
		wanted := slices.ContainsFunc(wants, func(w impl.Want) bool { return wantsTopic(w, x.Name) })
		for part := range x.Parts {
			s := impl.Slot{Topic: x.Name, Part: part}
			if wanted && times[s] != 1 || !wanted && times[s] != 0 {
				t.Fatalf("kind %d, %+v %+v: %v is given %d times", kind, topics, wants, s, times[s])
			}
			delete(times, s)
		}
	}
	if len(times) > 0 {
		t.Fatalf("kind %d, %+v %+v: %v are no slots of topics", kind, topics, wants, times)
	}
	return list
}

func TestEachWantedPartitionIsGivenOnce(t *testing.T) {
	r := rand.New(rand.NewSource(115))
	given, unwanted, idle := 0, 0, 0
	for range 6000 {
		topics := randomTopics(r)
		wants := randomCrew(r, topics)
		for _, kind := range assignKinds {
			for _, share := range mustGiveOnce(t, kind, topics, wants) {
				given += len(share)
				if len(share) == 0 {
					idle++
				}
			}
		}
		for _, x := range topics {
			if x.Parts > 0 && !slices.ContainsFunc(wants, func(w impl.Want) bool { return wantsTopic(w, x.Name) }) {
				unwanted++
			}
		}
	}
	if given < 10000 || unwanted < 1000 || idle < 1000 {
		t.Error("what is tried is too much alike:", given, unwanted, idle)
	}
}

// alikeCrew are members that all want the same, all of the topics or some of them.
func alikeCrew(r *rand.Rand, topics []impl.Topic) []impl.Want {
	wants := randomCrew(r, topics)
	same := []string{}
	for _, x := range topics {
		if r.Intn(5) > 0 {
			same = append(same, x.Name)
		}
	}
	for i := range wants {
		wants[i].Wants = slices.Clone(same)
	}
	return wants
}

// countedMoves are as many slots of Has as are not with their member.
func countedMoves(wants []impl.Want, list [][]impl.Slot) int {
	count := 0
	for i, w := range wants {
		for _, s := range w.Has {
			if !slices.Contains(list[i], s) {
				count++
			}
		}
	}
	return count
}

// leastMoves tells of members that want the same how many slots must move so that they have even shares.
func leastMoves(topics []impl.Topic, wants []impl.Want) int {
	slots, moves := 0, 0
	for _, x := range topics {
		if wantsTopic(wants[0], x.Name) {
			slots += x.Parts
		}
	}
	more := slots % len(wants)
	for _, w := range wants {
		kept := 0
		for _, s := range w.Has {
			at := slices.IndexFunc(topics, func(x impl.Topic) bool { return x.Name == s.Topic })
			if at >= 0 && s.Part < topics[at].Parts && wantsTopic(w, s.Topic) {
				kept++
			}
		}
		most := slots / len(wants)
		// One more stays with as many as may have one more, whoever they are.
		if kept > most && more > 0 {
			more--
			most++
		}
		moves += len(w.Has) - min(kept, most)
	}
	return moves
}

func mustBeEven(t *testing.T, kind int, topics []impl.Topic, wants []impl.Want) [][]impl.Slot {
	t.Helper()
	list := mustGiveOnce(t, kind, topics, wants)
	counts := []int{}
	for _, share := range list {
		counts = append(counts, len(share))
	}
	if slices.Max(counts)-slices.Min(counts) > 1 {
		t.Fatalf("kind %d, %+v %+v: uneven: %v", kind, topics, wants, counts)
	}
	return list
}

func TestAlikeMembersHaveEvenShares(t *testing.T) {
	r := rand.New(rand.NewSource(116))
	moved, stayed := 0, 0
	for range 6000 {
		topics := randomTopics(r)
		wants := alikeCrew(r, topics)
		if len(wants) == 0 {
			continue
		}
		mustBeEven(t, impl.ByTurns, topics, wants)
		list := mustBeEven(t, impl.Sticky, topics, wants)
		least, moves := leastMoves(topics, wants), countedMoves(wants, list)
		if moves != least || impl.Moves(wants, list) != least {
			t.Fatalf("%+v %+v: %d moves (Moves: %d), where %d would do: %s", topics, wants, moves, impl.Moves(wants, list), least, sharesText(list))
		}
		moved += moves
		for _, w := range wants {
			stayed += len(w.Has)
		}
		stayed -= moves
	}
	if moved < 5000 || stayed < 5000 {
		t.Error("what is tried is too much alike:", moved, stayed)
	}
}

// eachDeal calls with every way to deal so many things out to so many, counted as digits.
func eachDeal(things int, members int, do func(owners []int)) {
	owners := make([]int, things)
	for {
		do(owners)
		at := 0
		for at < things && owners[at] == members-1 {
			owners[at] = 0
			at++
		}
		if at == things {
			return
		}
		owners[at]++
	}
}

// evenDeals are all the ways to deal so many slots of one topic out evenly.
func evenDeals(slots int, members int) [][][]impl.Slot {
	deals := [][][]impl.Slot{}
	eachDeal(slots, members, func(owners []int) {
		list := make([][]impl.Slot, members)
		for part, owner := range owners {
			list[owner] = append(list[owner], impl.Slot{Topic: "a", Part: part})
		}
		for _, share := range list {
			if len(share) < slots/members || len(share) > (slots+members-1)/members {
				return
			}
		}
		deals = append(deals, list)
	})
	return deals
}

// Of all that members can have of a small topic, with a slot beyond it, and of all even spreads of it: none moves fewer than Sticky.
func TestStickyMovesTheLeastOfAllSpreads(t *testing.T) {
	for members := 1; members <= 3; members++ {
		for slots := range 6 {
			deals := evenDeals(slots, members)
			eachDeal(slots+1, members+1, func(owners []int) {
				wants := manyMembers(members)
				for part, owner := range owners {
					if owner < members {
						wants[owner].Has = append(wants[owner].Has, impl.Slot{Topic: "a", Part: part})
					}
				}
				topics := topicsIn("a" + strconv.Itoa(slots))
				list := mustBeEven(t, impl.Sticky, topics, wants)
				least := slots + 1
				for _, deal := range deals {
					least = min(least, countedMoves(wants, deal))
				}
				if countedMoves(wants, list) != least || leastMoves(topics, wants) != least {
					t.Fatalf("%+v: %s moves more than %d", wants, sharesText(list), least)
				}
			})
		}
	}
}
