package tests

import (
	"math"
	"math/rand"
	"slices"
	"testing"

	"loop.example/g00035/impl"
)

// The events as the document tells them, on a copy of the quorum.
func eventAsTold(q impl.Quorum, e impl.Event) (impl.Quorum, bool) {
	if !quorumOkAsTold(q) || len(e.Text) > 100 {
		return impl.Quorum{}, false
	}
	x := plainQuorum(q)
	done := false
	switch {
	case e.At < 0:
	case slices.Contains([]int{1, 2, 3, 7}, e.Kind) && e.At < len(x.Voters):
		done = voterEventAsTold(&x, e)
	case slices.Contains([]int{4, 5, 6}, e.Kind) && e.At < len(x.Net):
		done = messageEventAsTold(&x, e)
	}
	return x, done
}

func voterEventAsTold(q *impl.Quorum, e impl.Event) bool {
	v := &q.Voters[e.At]
	switch {
	case e.Kind == 1 && v.Role != 2 && v.Term < 1000000000000:
		v.Term, v.Role, v.Vote, v.Votes = v.Term+1, 1, e.At, []int{e.At}
		for to := range q.Voters {
			if to != e.At {
				sendAsTold(q, impl.Message{Kind: 1, From: e.At, To: to, Term: v.Term, At: len(v.Log), AtTerm: termAhead(v.Log, len(v.Log))})
			}
		}
		if len(q.Voters) == 1 {
			leadsAsTold(q, e.At)
		}
	case e.Kind == 2 && v.Role == 2 && len(v.Log) < 200:
		v.Log = append(v.Log, impl.Command{Term: v.Term, Text: e.Text})
		v.Match[e.At] = len(v.Log)
		if len(q.Voters) == 1 {
			v.Sealed = len(v.Log)
		}
	case e.Kind == 3 && v.Role == 2:
		for to := range q.Voters {
			if to != e.At {
				at := v.Next[to]
				sendAsTold(q, impl.Message{Kind: 3, From: e.At, To: to, Term: v.Term, At: at, AtTerm: termAhead(v.Log, at), Commands: slices.Clone(v.Log[at:]), Sealed: v.Sealed})
			}
		}
	case e.Kind == 7:
		*v = impl.Voter{Term: v.Term, Vote: v.Vote, Log: v.Log, Sealed: v.Sealed}
	default:
		return false
	}
	return true
}

func messageEventAsTold(q *impl.Quorum, e impl.Event) bool {
	m := plainMessage(q.Net[e.At])
	if e.Kind == 6 {
		if len(q.Net) == 400 {
			return false
		}
		q.Net = append(q.Net, m)
		return true
	}
	q.Net = append(q.Net[:e.At], q.Net[e.At+1:]...)
	if e.Kind == 4 && heardAsTold(m, len(q.Voters)) {
		arrivesAsTold(q, m)
	}
	return true
}

// termAhead is the Term of the command ahead of a place (0: none).
func termAhead(log []impl.Command, place int) int {
	if place == 0 {
		return 0
	}
	return log[place-1].Term
}

func sendAsTold(q *impl.Quorum, m impl.Message) {
	if len(q.Net) < 400 {
		q.Net = append(q.Net, m)
	}
}

func leadsAsTold(q *impl.Quorum, at int) {
	v := &q.Voters[at]
	v.Role, v.Next, v.Match = 2, nil, nil
	for to := range q.Voters {
		v.Next = append(v.Next, len(v.Log))
		if to == at {
			v.Match = append(v.Match, len(v.Log))
		} else {
			v.Match = append(v.Match, 0)
		}
	}
}

func heardAsTold(m impl.Message, n int) bool {
	ok := m.From >= 0 && m.From < n && m.To >= 0 && m.To < n && m.From != m.To
	ok = ok && m.Term >= 0 && m.Term <= 1000000000000
	ok = ok && m.At >= 0 && m.At <= 200 && m.Sealed >= 0 && m.Sealed <= 200
	ok = ok && m.AtTerm >= 0 && m.AtTerm <= m.Term
	for i, c := range m.Commands {
		ok = ok && c.Term >= 0 && c.Term <= m.Term && c.Term >= m.AtTerm && (i == 0 || c.Term >= m.Commands[i-1].Term)
	}
	return ok && m.At+len(m.Commands) <= 200
}

func arrivesAsTold(q *impl.Quorum, m impl.Message) {
	v := &q.Voters[m.To]
	if m.Term > v.Term {
		*v = impl.Voter{Term: m.Term, Vote: -1, Log: v.Log, Sealed: v.Sealed}
	}
	back := impl.Message{From: m.To, To: m.From, Term: v.Term}
	switch m.Kind {
	case 1:
		own := termAhead(v.Log, len(v.Log))
		behind := m.AtTerm < own || m.AtTerm == own && m.At < len(v.Log)
		if m.Term == v.Term && v.Role != 2 && (v.Vote == -1 || v.Vote == m.From) && !behind {
			v.Vote, back.Yes = m.From, true
		}
		back.Kind = 2
		sendAsTold(q, back)
	case 2:
		if v.Role == 1 && v.Term == m.Term && m.Yes {
			v.Votes = slices.Compact(slices.Sorted(slices.Values(append(v.Votes, m.From))))
			if 2*len(v.Votes) > len(q.Voters) {
				leadsAsTold(q, m.To)
			}
		}
	case 3:
		carriedAsTold(q, m, back)
	case 4:
		if v.Role == 2 && v.Term == m.Term && m.At <= len(v.Log) {
			tookAsTold(v, m)
		}
	}
}

func carriedAsTold(q *impl.Quorum, m impl.Message, back impl.Message) {
	v := &q.Voters[m.To]
	if m.Term == v.Term && v.Role == 2 {
		return
	}
	back.Kind, back.At = 4, m.At
	if m.Term == v.Term {
		v.Role, v.Votes = 0, nil
		if m.At == 0 || len(v.Log) >= m.At && termAhead(v.Log, m.At) == m.AtTerm {
			back.Yes, back.At = true, m.At+len(m.Commands)
			v.Log = mergedAsTold(v.Log, m.At, m.Commands)
			if sealed := min(m.Sealed, back.At); sealed > v.Sealed {
				v.Sealed = sealed
			}
			if v.Sealed > len(v.Log) {
				v.Sealed = len(v.Log)
			}
		}
	}
	sendAsTold(q, back)
}

// mergedAsTold goes place by place: what the voter has, as long as none is unlike, then what is told.
func mergedAsTold(own []impl.Command, at int, commands []impl.Command) []impl.Command {
	told := append(slices.Clone(own[:at]), commands...)
	out, unlike := []impl.Command{}, false
	for place := range max(len(own), len(told)) {
		unlike = unlike || place < len(own) && place < len(told) && own[place].Term != told[place].Term
		if place < len(own) && !unlike {
			out = append(out, own[place])
		} else if place < len(told) {
			out = append(out, told[place])
		}
	}
	return out
}

func tookAsTold(v *impl.Voter, m impl.Message) {
	if !m.Yes {
		v.Next[m.From] = max(min(v.Next[m.From], m.At)-1, 0)
	} else {
		v.Match[m.From] = max(v.Match[m.From], m.At)
		v.Next[m.From] = v.Match[m.From]
	}
	most := v.Sealed
	for n := v.Sealed + 1; n <= len(v.Log); n++ {
		have := 0
		for _, match := range v.Match {
			if match >= n {
				have++
			}
		}
		if 2*have > len(v.Match) && v.Log[n-1].Term == v.Term {
			most = n
		}
	}
	v.Sealed = most
}

func ev(kind int, at int) impl.Event {
	return impl.Event{Kind: kind, At: at}
}

func telling(at int, text string) impl.Event {
	return impl.Event{Kind: impl.EvTell, At: at, Text: text}
}

// happens does an event that does something, and holds it against the document's words.
func happens(t *testing.T, name string, q impl.Quorum, e impl.Event) impl.Quorum {
	t.Helper()
	x, ok := impl.DoEvent(q, e)
	want, _ := eventAsTold(q, e)
	if !ok || !sameQuorum(x, want) || !impl.QuorumOk(x) {
		t.Fatalf("%s: %+v comes to %t\n%+v\nnot\n%+v", name, e, ok, x, want)
	}
	return x
}

// nothing: the event does nothing, and the quorum is as it was.
func nothing(t *testing.T, name string, q impl.Quorum, e impl.Event) {
	t.Helper()
	if x, ok := impl.DoEvent(q, e); ok || !sameQuorum(x, q) {
		t.Errorf("%s: %+v comes to %t\n%+v\nof\n%+v", name, e, ok, x, q)
	}
}

func mustBeVoter(t *testing.T, name string, v impl.Voter, want impl.Voter) {
	t.Helper()
	if !sameVoter(v, want) {
		t.Errorf("%s: the voter is %+v, not %+v", name, v, want)
	}
}

func mustSend(t *testing.T, name string, sent []impl.Message, want ...impl.Message) {
	t.Helper()
	if !slices.EqualFunc(sent, want, sameMessage) {
		t.Errorf("%s: sent is %+v, not %+v", name, sent, want)
	}
}

// mustLeaveOthers: all voters but one are as they were.
func mustLeaveOthers(t *testing.T, name string, q impl.Quorum, x impl.Quorum, at int) {
	t.Helper()
	for i, v := range q.Voters {
		if i != at && !sameVoter(x.Voters[i], v) {
			t.Errorf("%s: voter %d becomes %+v", name, i, x.Voters[i])
		}
	}
}

func TestEvWake(t *testing.T) {
	q := cabinet()
	x := happens(t, "a follower", q, ev(impl.EvWake, 2))
	mustBeVoter(t, "a follower", x.Voters[2], impl.Voter{Term: 4, Vote: 2, Role: 1, Votes: []int{2}, Log: ofTerms("a", 1, 1)})
	mustSend(t, "a follower", x.Net[2:], impl.Message{Kind: 1, From: 2, To: 0, Term: 4, At: 2, AtTerm: 1}, impl.Message{Kind: 1, From: 2, To: 1, Term: 4, At: 2, AtTerm: 1})
	mustLeaveOthers(t, "a follower", q, x, 2)
	mustSend(t, "what was under way", x.Net[:2], q.Net...)

	q.Voters[1].Votes = []int{0, 1}
	x = happens(t, "a candidate", q, ev(impl.EvWake, 1))
	mustBeVoter(t, "a candidate", x.Voters[1], impl.Voter{Term: 5, Vote: 1, Role: 1, Votes: []int{1}, Log: ofTerms("a", 1, 1), Sealed: 1})
	mustSend(t, "a candidate", x.Net[2:], impl.Message{Kind: 1, From: 1, To: 0, Term: 5, At: 2, AtTerm: 1}, impl.Message{Kind: 1, From: 1, To: 2, Term: 5, At: 2, AtTerm: 1})
	nothing(t, "a leader", q, ev(impl.EvWake, 0))

	x = happens(t, "one without commands", impl.NewQuorum(2), ev(impl.EvWake, 0))
	mustBeVoter(t, "one without commands", x.Voters[0], impl.Voter{Term: 1, Vote: 0, Role: 1, Votes: []int{0}})
	mustSend(t, "one without commands", x.Net, impl.Message{Kind: 1, From: 0, To: 1, Term: 1})

	x = happens(t, "of five", impl.NewQuorum(5), ev(impl.EvWake, 2))
	to := []int{}
	for _, m := range x.Net {
		to = append(to, m.To)
	}
	if !slices.Equal(to, []int{0, 1, 3, 4}) {
		t.Error("of five, it asks", to)
	}
}

func TestEvWakeAtTheGreatestTerm(t *testing.T) {
	q := cabinet()
	q.Voters[1].Term, q.Voters[2].Term = impl.MaxTime, impl.MaxTime
	nothing(t, "a candidate at MaxTime", q, ev(impl.EvWake, 1))
	nothing(t, "a follower at MaxTime", q, ev(impl.EvWake, 2))
	q.Voters[2].Term = impl.MaxTime - 1
	if x := happens(t, "just below", q, ev(impl.EvWake, 2)); x.Voters[2].Term != impl.MaxTime || x.Net[3].Term != impl.MaxTime {
		t.Errorf("just below MaxTime: %+v", x.Voters[2])
	}
	alone := impl.Quorum{Voters: []impl.Voter{{Term: impl.MaxTime, Vote: -1}}}
	nothing(t, "alone at MaxTime", alone, ev(impl.EvWake, 0))
}

func TestEvWakeAlone(t *testing.T) {
	x := happens(t, "alone", impl.NewQuorum(1), ev(impl.EvWake, 0))
	mustBeVoter(t, "alone", x.Voters[0], impl.Voter{Term: 1, Vote: 0, Role: 2, Votes: []int{0}, Next: []int{0}, Match: []int{0}})
	mustSend(t, "alone", x.Net)
	nothing(t, "again", x, ev(impl.EvWake, 0))

	q := impl.Quorum{Voters: []impl.Voter{{Term: 7, Vote: -1, Role: 1, Log: ofTerms("a", 2, 7), Sealed: 1}}}
	x = happens(t, "with commands", q, ev(impl.EvWake, 0))
	mustBeVoter(t, "with commands", x.Voters[0], impl.Voter{Term: 8, Vote: 0, Role: 2, Votes: []int{0}, Log: ofTerms("a", 2, 7), Next: []int{2}, Match: []int{2}, Sealed: 1})
}

func TestEvTell(t *testing.T) {
	q := cabinet()
	x := happens(t, "a leader", q, telling(0, "new"))
	log := append(ofTerms("a", 1, 1, 3), impl.Command{Term: 3, Text: "new"})
	mustBeVoter(t, "a leader", x.Voters[0], impl.Voter{Term: 3, Vote: 0, Role: 2, Votes: []int{0, 2}, Log: log, Next: []int{3, 1, 0}, Match: []int{4, 1, 2}, Sealed: 2})
	mustSend(t, "a leader", x.Net, q.Net...)
	mustLeaveOthers(t, "a leader", q, x, 0)
	nothing(t, "a candidate", q, telling(1, "new"))
	nothing(t, "a follower", q, telling(2, "new"))

	for _, text := range []string{"", long(100)} {
		if x := happens(t, "a Text at its bound", q, telling(0, text)); x.Voters[0].Log[3].Text != text {
			t.Error("a Text at its bound is", x.Voters[0].Log[3].Text)
		}
	}
	q.Voters[0].Term = impl.MaxTime
	if x := happens(t, "at MaxTime", q, telling(0, "")); x.Voters[0].Log[3].Term != impl.MaxTime {
		t.Error("at MaxTime the Term is", x.Voters[0].Log[3].Term)
	}
	q.Voters[0].Match = []int{0, 3, 3}
	if x := happens(t, "others have them", q, telling(0, "")); x.Voters[0].Sealed != 2 || x.Voters[0].Match[0] != 4 {
		t.Errorf("what is told seals nothing but alone: %+v", x.Voters[0])
	}
}

func TestEvTellUpToMaxCommands(t *testing.T) {
	q := cabinet()
	q.Voters[0].Log = manyCommands(199, 3)
	q = happens(t, "one below MaxCommands", q, telling(0, "x"))
	if v := q.Voters[0]; len(v.Log) != 200 || v.Match[0] != 200 {
		t.Errorf("it has %d", len(v.Log))
	}
	nothing(t, "MaxCommands", q, telling(0, "x"))
	alone := impl.RunQuorum(impl.NewQuorum(1), append([]impl.Event{ev(impl.EvWake, 0)}, slices.Repeat([]impl.Event{telling(0, "x")}, 201)...))
	if v := alone.Voters[0]; len(v.Log) != 200 || v.Sealed != 200 {
		t.Errorf("alone it has %d, sealed %d", len(v.Log), v.Sealed)
	}
	nothing(t, "alone with MaxCommands", alone, telling(0, "x"))
}

func TestEvTellAlone(t *testing.T) {
	q := impl.Quorum{Voters: []impl.Voter{{Term: 4, Vote: 0, Role: 2, Log: ofTerms("a", 2, 3), Next: []int{1}, Match: []int{0}}}}
	x := happens(t, "a leader alone", q, telling(0, "b"))
	log := append(ofTerms("a", 2, 3), impl.Command{Term: 4, Text: "b"})
	mustBeVoter(t, "a leader alone", x.Voters[0], impl.Voter{Term: 4, Vote: 0, Role: 2, Log: log, Next: []int{1}, Match: []int{3}, Sealed: 3})
	nothing(t, "a follower alone", impl.NewQuorum(1), telling(0, "b"))
	two := impl.NewQuorum(2)
	leading(&two, 1, 3)
	if x := happens(t, "of two", two, telling(1, "b")); x.Voters[1].Sealed != 0 {
		t.Error("of two, one alone seals", x.Voters[1].Sealed)
	}
}

func TestEvBeat(t *testing.T) {
	q := cabinet()
	x := happens(t, "a leader", q, ev(impl.EvBeat, 0))
	log := ofTerms("a", 1, 1, 3)
	mustSend(t, "a leader", x.Net[2:],
		impl.Message{Kind: 3, From: 0, To: 1, Term: 3, At: 1, AtTerm: 1, Commands: log[1:], Sealed: 2},
		impl.Message{Kind: 3, From: 0, To: 2, Term: 3, At: 0, AtTerm: 0, Commands: log, Sealed: 2})
	for i, v := range x.Voters {
		mustBeVoter(t, "a leader", v, q.Voters[i])
	}
	nothing(t, "a candidate", q, ev(impl.EvBeat, 1))
	nothing(t, "a follower", q, ev(impl.EvBeat, 2))

	q.Voters[0].Next = []int{0, 3, 2}
	x = happens(t, "all sent", q, ev(impl.EvBeat, 0))
	mustSend(t, "all sent", x.Net[2:],
		impl.Message{Kind: 3, From: 0, To: 1, Term: 3, At: 3, AtTerm: 3, Sealed: 2},
		impl.Message{Kind: 3, From: 0, To: 2, Term: 3, At: 2, AtTerm: 1, Commands: log[2:], Sealed: 2})

	q = impl.NewQuorum(4)
	leading(&q, 2, 6)
	x = happens(t, "without commands", q, ev(impl.EvBeat, 2))
	mustSend(t, "without commands", x.Net, impl.Message{Kind: 3, From: 2, To: 0, Term: 6}, impl.Message{Kind: 3, From: 2, To: 1, Term: 6}, impl.Message{Kind: 3, From: 2, To: 3, Term: 6})
	q = impl.NewQuorum(1)
	leading(&q, 0, 6)
	if x := happens(t, "alone", q, ev(impl.EvBeat, 0)); len(x.Net) != 0 || !sameQuorum(x, q) {
		t.Errorf("alone: %+v", x)
	}
}

func TestEvBeatWithMaxCommands(t *testing.T) {
	q := impl.NewQuorum(2)
	leading(&q, 0, 6)
	q.Voters[0].Log, q.Voters[0].Match = manyCommands(200, 6), []int{200, 0}
	x := happens(t, "MaxCommands", q, ev(impl.EvBeat, 0))
	if len(x.Net[0].Commands) != 200 {
		t.Error("it carries", len(x.Net[0].Commands))
	}
	x = happens(t, "they arrive", x, ev(impl.EvCarry, 0))
	if len(x.Voters[1].Log) != 200 || x.Net[0].At != 200 {
		t.Errorf("it has %d, and tells %+v", len(x.Voters[1].Log), x.Net[0])
	}
	x = happens(t, "they are known", x, ev(impl.EvCarry, 0))
	if x.Voters[0].Sealed != 200 || x.Voters[0].Next[1] != 200 {
		t.Errorf("sealed are %d", x.Voters[0].Sealed)
	}
}

func TestEvLose(t *testing.T) {
	q := cabinet()
	q.Net = append(q.Net, impl.Message{Kind: 9, From: -1})
	for at := range 3 {
		x := happens(t, "a message", q, ev(impl.EvLose, at))
		mustSend(t, "a message", x.Net, slices.Delete(slices.Clone(q.Net), at, at+1)...)
		for i, v := range x.Voters {
			mustBeVoter(t, "a message", v, q.Voters[i])
		}
	}
	nothing(t, "just beyond", q, ev(impl.EvLose, 3))
	nothing(t, "below 0", q, ev(impl.EvLose, -1))
	q.Net = nil
	nothing(t, "nothing is under way", q, ev(impl.EvLose, 0))
}

func TestEvTwice(t *testing.T) {
	q := cabinet()
	q.Net = append(q.Net, impl.Message{Kind: 9, From: -1})
	for at := range 3 {
		x := happens(t, "a message", q, ev(impl.EvTwice, at))
		mustSend(t, "a message", x.Net, append(slices.Clone(q.Net), q.Net[at])...)
		for i, v := range x.Voters {
			mustBeVoter(t, "a message", v, q.Voters[i])
		}
	}
	nothing(t, "just beyond", q, ev(impl.EvTwice, 3))
	nothing(t, "below 0", q, ev(impl.EvTwice, -1))
	q.Net = slices.Repeat(q.Net[:1], 399)
	q = happens(t, "one below MaxNet", q, ev(impl.EvTwice, 398))
	nothing(t, "MaxNet", q, ev(impl.EvTwice, 0))
	nothing(t, "the last of MaxNet", q, ev(impl.EvTwice, 399))
	happens(t, "MaxNet, and it goes", q, ev(impl.EvLose, 399))
	happens(t, "MaxNet, and it arrives", q, ev(impl.EvCarry, 399))
}

func TestEvRestart(t *testing.T) {
	q := cabinet()
	q.Voters[2].Votes = []int{0, 1}
	for at, want := range []impl.Voter{
		{Term: 3, Vote: 0, Log: ofTerms("a", 1, 1, 3), Sealed: 2},
		{Term: 4, Vote: 1, Log: ofTerms("a", 1, 1), Sealed: 1},
		{Term: 3, Vote: 0, Log: ofTerms("a", 1, 1)},
	} {
		x := happens(t, "a voter", q, ev(impl.EvRestart, at))
		mustBeVoter(t, "a voter", x.Voters[at], want)
		mustLeaveOthers(t, "a voter", q, x, at)
		mustSend(t, "a voter", x.Net, q.Net...)
		if again := happens(t, "once more", x, ev(impl.EvRestart, at)); !sameQuorum(again, x) {
			t.Errorf("once more: %+v", again.Voters[at])
		}
	}
}

// A send when there are MaxNet messages is lost; those that fit are sent.
func TestSendsBeyondMaxNetAreLost(t *testing.T) {
	for count, sent := range map[int]int{396: 4, 397: 3, 398: 2, 399: 1, 400: 0} {
		q := impl.NewQuorum(5)
		q.Net = slices.Repeat([]impl.Message{{Kind: 1, From: 1, To: 0, Term: 1}}, count)
		x := happens(t, "awake", q, ev(impl.EvWake, 0))
		if len(x.Net) != count+sent || x.Voters[0].Term != 1 || x.Voters[0].Role != impl.Candidate || !slices.Equal(x.Voters[0].Votes, []int{0}) {
			t.Errorf("awake with %d: %d, %+v", count, len(x.Net), x.Voters[0])
		}
		for i, m := range x.Net[count:] {
			if m.From != 0 || m.To != i+1 {
				t.Errorf("awake with %d: %d is sent to %d", count, i, m.To)
			}
		}
		leading(&q, 4, 2)
		if x = happens(t, "a beat", q, ev(impl.EvBeat, 4)); len(x.Net) != count+sent {
			t.Errorf("a beat with %d: %d", count, len(x.Net))
		}
		if x = happens(t, "an answer", q, ev(impl.EvCarry, 7)); len(x.Net) != count || x.Net[count-1].Kind != impl.GiveVote {
			t.Errorf("what arrives makes room for its answer: %d, %d", count, len(x.Net))
		}
	}
}

func TestEventsThatAreNone(t *testing.T) {
	q := cabinet()
	for _, kind := range []int{math.MinInt, -1, 0, 8, 9, 100, math.MaxInt} {
		for at := -1; at <= 3; at++ {
			nothing(t, "no Kind", q, ev(kind, at))
		}
	}
	for kind := 1; kind <= 7; kind++ {
		for _, at := range []int{math.MinInt, -2, -1, 3, 4, 100, math.MaxInt} {
			nothing(t, "no voter and no message", q, ev(kind, at))
		}
	}
	for _, kind := range []int{impl.EvCarry, impl.EvLose, impl.EvTwice} {
		nothing(t, "just beyond the last message", q, ev(kind, 2))
		happens(t, "the last message", q, ev(kind, 1))
		happens(t, "the first message", q, ev(kind, 0))
		more := q
		more.Net = slices.Repeat(q.Net, 4)
		happens(t, "a message beyond the last voter", more, ev(kind, 7))
		nothing(t, "just beyond that", more, ev(kind, 8))
	}
	few := impl.NewQuorum(2)
	leading(&few, 1, 1)
	few.Net = q.Net
	for _, kind := range []int{impl.EvTell, impl.EvBeat, impl.EvRestart} {
		happens(t, "the last voter", few, ev(kind, 1))
		nothing(t, "just beyond the last voter", few, ev(kind, 2))
	}
	happens(t, "the first voter", few, ev(impl.EvWake, 0))
	nothing(t, "just beyond the last voter", few, ev(impl.EvWake, 2))
}

func TestATextThatIsTooLong(t *testing.T) {
	q := cabinet()
	for kind := range 9 {
		for _, e := range []impl.Event{{Kind: kind, Text: long(101)}, {Kind: kind, At: 1, Text: long(5000)}, {Kind: kind, At: -1, Text: long(101)}} {
			if x, ok := impl.DoEvent(q, e); ok || !sameQuorum(x, impl.Quorum{}) {
				t.Errorf("the Kind %d: %t %+v", kind, ok, x)
			}
		}
		x, ok := impl.DoEvent(q, impl.Event{Kind: kind, Text: long(100)})
		y, as := impl.DoEvent(q, ev(kind, 0))
		if ok != as || kind != impl.EvTell && !sameQuorum(x, y) || len(x.Voters) != 3 {
			t.Errorf("MaxText, the Kind %d: %t %+v", kind, ok, x)
		}
	}
}

func TestDoEventIsAsTold(t *testing.T) {
	r := rand.New(rand.NewSource(72))
	done := map[int]int{}
	for range 3000 {
		q := randomQuorum(r)
		if r.Intn(20) == 0 {
			spoilVoter(r, &q.Voters[0], len(q.Voters))
		}
		for _, e := range eventsFor(r, q) {
			x, ok := impl.DoEvent(q, e)
			want, as := eventAsTold(q, e)
			if ok != as || !sameQuorum(x, want) {
				t.Fatalf("%+v of\n%+v\ncomes to %t\n%+v\nnot %t\n%+v", e, q, ok, x, as, want)
			}
			if quorumOkAsTold(q) && !quorumOkAsTold(x) {
				t.Fatalf("%+v of\n%+v\ncomes to what is not right:\n%+v", e, q, x)
			}
			if ok {
				done[e.Kind]++
			}
		}
	}
	for kind := 1; kind <= 7; kind++ {
		if done[kind] < 1000 {
			t.Error("too few events of a Kind are done:", kind, done[kind])
		}
	}
}

// eventsFor are some events of each Kind; of what is under way much arrives.
func eventsFor(r *rand.Rand, q impl.Quorum) []impl.Event {
	list := []impl.Event{}
	for kind := range 9 {
		list = append(list, impl.Event{Kind: kind, At: r.Intn(len(q.Voters)), Text: "e"})
		list = append(list, ev(kind, r.Intn(len(q.Net)+3)-1))
	}
	for at := range min(len(q.Net), 6) {
		list = append(list, ev(impl.EvCarry, at))
	}
	return list
}
