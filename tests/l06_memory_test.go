package tests

import (
	"math/rand"
	"reflect"
	"slices"
	"testing"

	"loop.example/g00035/impl"
)

// withRoom is a copy of a list with spare room behind it, filled with what must stay.
func withRoom[T any](list []T, behind T) []T {
	out := append(slices.Clone(list), behind, behind)
	return out[:len(list)]
}

func withAllRoom[T any](list []T) []T {
	return slices.Clone(list[:cap(list)])
}

func eachQuorumList(q impl.Quorum, numbers func([]int) []int, commands func([]impl.Command) []impl.Command) impl.Quorum {
	for i, v := range q.Voters {
		q.Voters[i].Votes, q.Voters[i].Next, q.Voters[i].Match = numbers(v.Votes), numbers(v.Next), numbers(v.Match)
		q.Voters[i].Log = commands(v.Log)
	}
	for i, m := range q.Net {
		q.Net[i].Commands = commands(m.Commands)
	}
	return q
}

func roomyQuorum(q impl.Quorum) impl.Quorum {
	q = eachQuorumList(plainQuorum(q),
		func(list []int) []int { return withRoom(list, -7) },
		func(list []impl.Command) []impl.Command { return withRoom(list, impl.Command{Term: -7}) })
	q.Voters = withRoom(q.Voters, impl.Voter{Term: -7})
	q.Net = withRoom(q.Net, impl.Message{Kind: -7})
	return q
}

// wholeQuorum tells a quorum with all that stands in the room behind its lists.
func wholeQuorum(q impl.Quorum) impl.Quorum {
	q.Voters, q.Net = withAllRoom(q.Voters), withAllRoom(q.Net)
	return eachQuorumList(q, withAllRoom[int], withAllRoom[impl.Command])
}

func someEvents(r *rand.Rand, q impl.Quorum) []impl.Event {
	return withRoom(eventsFor(r, q), impl.Event{Kind: -7})
}

func TestTheQuorumLeavesArgumentsAlone(t *testing.T) {
	r := rand.New(rand.NewSource(75))
	for range 1000 {
		q := randomQuorum(r)
		if r.Intn(10) == 0 {
			spoilVoter(r, &q.Voters[0], len(q.Voters))
		}
		q = roomyQuorum(q)
		events := someEvents(r, q)
		as, asEvents := wholeQuorum(q), withAllRoom(events)
		impl.QuorumOk(q)
		impl.LeaderOf(q)
		impl.RunQuorum(q, events)
		for _, e := range events {
			impl.DoEvent(q, e)
		}
		if !reflect.DeepEqual(wholeQuorum(q), as) || !slices.Equal(withAllRoom(events), asEvents) {
			t.Fatalf("an argument was changed: %+v %+v", as, asEvents)
		}
	}
}

// What lies behind a list's length is not looked at.
func TestTheQuorumLooksNotBehindTheLength(t *testing.T) {
	r := rand.New(rand.NewSource(76))
	for range 500 {
		q := randomQuorum(r)
		room := roomyQuorum(q)
		for _, e := range eventsFor(r, q) {
			x, ok := impl.DoEvent(q, e)
			y, again := impl.DoEvent(room, e)
			if ok != again || !sameQuorum(x, y) {
				t.Fatalf("%+v with room: %t %+v, without: %t %+v", e, again, y, ok, x)
			}
		}
		events := someEvents(r, q)
		if impl.LeaderOf(q) != impl.LeaderOf(room) || !sameQuorum(impl.RunQuorum(q, slices.Clone(events)), impl.RunQuorum(room, events)) {
			t.Fatalf("with room it answers otherwise: %+v", q)
		}
	}
}

func TestTheQuorumsAnswersAreNewMemory(t *testing.T) {
	r := rand.New(rand.NewSource(77))
	for range 700 {
		q := roomyQuorum(randomQuorum(r))
		events := someEvents(r, q)
		for _, e := range events {
			x, _ := impl.DoEvent(q, e)
			mustBeNew(t, "DoEvent", x, q, events)
		}
		mustBeNew(t, "RunQuorum", impl.RunQuorum(q, events), q, events)
	}
	for voters := 1; voters <= 5; voters++ {
		mustBeNew(t, "NewQuorum", impl.NewQuorum(voters))
	}
}

// Lists that an argument has twice are two in an answer, and so are those of messages that are sent.
func TestListsOfAQuorumShareNothing(t *testing.T) {
	commands, numbers := ofTerms("a", 1, 1, 2), []int{0, 1, 2}
	q := impl.Quorum{}
	for range 3 {
		q.Voters = append(q.Voters, impl.Voter{Term: 2, Vote: -1, Role: impl.Leader, Votes: numbers, Log: commands, Next: numbers, Match: numbers})
	}
	q.Voters[2].Role, q.Voters[2].Next, q.Voters[2].Match = impl.Follower, nil, nil
	m := impl.Message{Kind: impl.Carry, From: 0, To: 2, Term: 2, Commands: commands}
	behind := m
	behind.At, behind.AtTerm, behind.Commands = 3, 2, ofTerms("b", 2, 2)
	q.Net = []impl.Message{m, m, behind}
	events := []impl.Event{ev(impl.EvBeat, 0), ev(impl.EvBeat, 1), telling(0, "x"), ev(impl.EvTwice, 0), ev(impl.EvTwice, 2), ev(impl.EvCarry, 2), ev(impl.EvCarry, 0), ev(impl.EvBeat, 0), ev(impl.EvLose, 0), ev(impl.EvRestart, 1), ev(impl.EvWake, 1)}
	x := q
	for _, e := range events {
		alone, ok := impl.DoEvent(q, e)
		if !ok && e.Kind != impl.EvWake {
			t.Errorf("%+v does nothing", e)
		}
		mustBeNew(t, "DoEvent", alone, q)
		next, _ := impl.DoEvent(x, e)
		mustBeNew(t, "DoEvent, of a course", next, x)
		x = next
		mustBeNew(t, "RunQuorum", impl.RunQuorum(q, events), q, events)
	}
	if y := impl.RunQuorum(q, events); !sameQuorum(y, x) || len(y.Voters[2].Log) != 5 {
		t.Errorf("all at once: %+v", y)
	}
	idle, ok := impl.DoEvent(q, ev(impl.EvBeat, 2))
	if ok || !sameQuorum(idle, q) {
		t.Errorf("what does nothing: %+v", idle)
	}
	mustBeNew(t, "what does nothing", idle, q)
}
