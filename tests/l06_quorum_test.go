package tests

import (
	"math"
	"math/rand"
	"reflect"
	"slices"
	"strconv"
	"testing"

	"loop.example/g00035/impl"
)

func TestLimitsOfTheQuorum(t *testing.T) {
	limits := []int{impl.MaxVoters, impl.MaxCommands, impl.MaxEvents, impl.MaxNet}
	if !slices.Equal(limits, []int{5, 200, 400, 400}) {
		t.Error("a limit is another than the document's:", limits)
	}
	roles := []int{impl.Follower, impl.Candidate, impl.Leader}
	if !slices.Equal(roles, []int{0, 1, 2}) {
		t.Error("a Role is another than the document's:", roles)
	}
	messages := []int{impl.AskVote, impl.GiveVote, impl.Carry, impl.Took}
	if !slices.Equal(messages, []int{1, 2, 3, 4}) {
		t.Error("a Kind of a message is another than the document's:", messages)
	}
	events := []int{impl.EvWake, impl.EvTell, impl.EvBeat, impl.EvCarry, impl.EvLose, impl.EvTwice, impl.EvRestart}
	if !slices.Equal(events, []int{1, 2, 3, 4, 5, 6, 7}) {
		t.Error("a Kind of an event is another than the document's:", events)
	}
}

// plainQuorum is a copy of a quorum in which all empty lists are alike.
func plainQuorum(q impl.Quorum) impl.Quorum {
	out := impl.Quorum{Voters: []impl.Voter{}, Net: []impl.Message{}}
	for _, v := range q.Voters {
		out.Voters = append(out.Voters, plainVoter(v))
	}
	for _, m := range q.Net {
		out.Net = append(out.Net, plainMessage(m))
	}
	return out
}

func plainVoter(v impl.Voter) impl.Voter {
	v.Votes = append([]int{}, v.Votes...)
	v.Log = append([]impl.Command{}, v.Log...)
	v.Next = append([]int{}, v.Next...)
	v.Match = append([]int{}, v.Match...)
	return v
}

func plainMessage(m impl.Message) impl.Message {
	m.Commands = append([]impl.Command{}, m.Commands...)
	return m
}

func sameQuorum(a impl.Quorum, b impl.Quorum) bool {
	return reflect.DeepEqual(plainQuorum(a), plainQuorum(b))
}

func sameVoter(a impl.Voter, b impl.Voter) bool {
	return reflect.DeepEqual(plainVoter(a), plainVoter(b))
}

func sameMessage(a impl.Message, b impl.Message) bool {
	return reflect.DeepEqual(plainMessage(a), plainMessage(b))
}

// ofTerms are commands of these Terms; each has the mark and its place as its Text.
func ofTerms(mark string, terms ...int) []impl.Command {
	list := []impl.Command{}
	for i, term := range terms {
		list = append(list, impl.Command{Term: term, Text: mark + strconv.Itoa(i)})
	}
	return list
}

func manyCommands(count int, term int) []impl.Command {
	return slices.Repeat([]impl.Command{{Term: term, Text: "m"}}, count)
}

// cabinet is right: a leader, a candidate and a follower, with two messages under way.
func cabinet() impl.Quorum {
	return impl.Quorum{
		Voters: []impl.Voter{
			{Term: 3, Vote: 0, Role: impl.Leader, Votes: []int{0, 2}, Log: ofTerms("a", 1, 1, 3), Next: []int{3, 1, 0}, Match: []int{3, 1, 2}, Sealed: 2},
			{Term: 4, Vote: 1, Role: impl.Candidate, Votes: []int{1}, Log: ofTerms("a", 1, 1), Sealed: 1},
			{Term: 3, Vote: 0, Role: impl.Follower, Log: ofTerms("a", 1, 1)},
		},
		Net: []impl.Message{
			{Kind: impl.AskVote, From: 1, To: 2, Term: 4, At: 2, AtTerm: 1},
			{Kind: impl.Carry, From: 0, To: 2, Term: 3, At: 2, AtTerm: 1, Commands: ofTerms("a", 1, 1, 3)[2:], Sealed: 2},
		},
	}
}

func textsOkAsTold(list []impl.Command) bool {
	ok := len(list) <= 200
	for _, c := range list {
		ok = ok && len(c.Text) <= 100
	}
	return ok
}

func countsOkAsTold(list []int, role int, voters int, commands int) bool {
	if role != 2 {
		return len(list) == 0
	}
	return len(list) == voters && slices.Min(list) >= 0 && slices.Max(list) <= commands
}

func quorumOkAsTold(q impl.Quorum) bool {
	n := len(q.Voters)
	ok := n >= 1 && n <= 5 && len(q.Net) <= 400
	for _, v := range q.Voters {
		ok = ok && v.Term >= 0 && v.Term <= 1000000000000
		ok = ok && v.Vote >= -1 && v.Vote < n && slices.Contains([]int{0, 1, 2}, v.Role)
		for i, at := range v.Votes {
			ok = ok && at >= 0 && at < n && !slices.Contains(v.Votes[:i], at) && slices.IsSorted(v.Votes)
		}
		ok = ok && textsOkAsTold(v.Log)
		for i, c := range v.Log {
			ok = ok && c.Term >= 0 && c.Term <= v.Term && (i == 0 || c.Term >= v.Log[i-1].Term)
		}
		ok = ok && v.Sealed >= 0 && v.Sealed <= len(v.Log)
		ok = ok && countsOkAsTold(v.Next, v.Role, n, len(v.Log)) && countsOkAsTold(v.Match, v.Role, n, len(v.Log))
	}
	for _, m := range q.Net {
		ok = ok && textsOkAsTold(m.Commands)
	}
	return ok
}

type quorumChange = func(q *impl.Quorum)

// calm takes from the leader what only a leader has.
func calm(q *impl.Quorum, role int) {
	q.Voters[0].Role, q.Voters[0].Next, q.Voters[0].Match = role, nil, nil
}

func TestQuorumOkTakes(t *testing.T) {
	for name, do := range map[string]quorumChange{
		"as it is":                func(q *impl.Quorum) {},
		"one voter":               func(q *impl.Quorum) { *q = impl.Quorum{Voters: []impl.Voter{{Vote: -1}}} },
		"one that voted":          func(q *impl.Quorum) { *q = impl.Quorum{Voters: []impl.Voter{{Vote: 0, Votes: []int{0}}}} },
		"MaxVoters":               func(q *impl.Quorum) { *q = impl.Quorum{Voters: make([]impl.Voter, 5)} },
		"nothing under way":       func(q *impl.Quorum) { q.Net = nil },
		"Term 0":                  func(q *impl.Quorum) { q.Voters[1].Term, q.Voters[1].Log = 0, ofTerms("b", 0, 0) },
		"greatest Term":           func(q *impl.Quorum) { q.Voters[1].Term = impl.MaxTime },
		"Vote nobody":             func(q *impl.Quorum) { q.Voters[0].Vote = -1 },
		"Vote the first":          func(q *impl.Quorum) { q.Voters[1].Vote = 0 },
		"Vote the last":           func(q *impl.Quorum) { q.Voters[1].Vote = 2 },
		"the leader a candidate":  func(q *impl.Quorum) { calm(q, impl.Candidate) },
		"the leader a follower":   func(q *impl.Quorum) { calm(q, impl.Follower) },
		"no Votes":                func(q *impl.Quorum) { q.Voters[0].Votes, q.Voters[1].Votes = nil, []int{} },
		"all Votes":               func(q *impl.Quorum) { q.Voters[1].Votes = []int{0, 1, 2} },
		"the last one's Vote":     func(q *impl.Quorum) { q.Voters[1].Votes = []int{2} },
		"Votes of a follower":     func(q *impl.Quorum) { q.Voters[2].Votes = []int{0, 2} },
		"no commands":             func(q *impl.Quorum) { q.Voters[2].Log = nil },
		"MaxCommands":             func(q *impl.Quorum) { q.Voters[2].Log = manyCommands(200, 3) },
		"MaxCommands of a leader": func(q *impl.Quorum) { q.Voters[0].Log = manyCommands(200, 3) },
		"a command of Term 0":     func(q *impl.Quorum) { q.Voters[2].Log = ofTerms("b", 0, 3) },
		"all of its Term":         func(q *impl.Quorum) { q.Voters[2].Log = ofTerms("b", 3, 3) },
		"the greatest in the log": func(q *impl.Quorum) { q.Voters[1].Term, q.Voters[1].Log[1].Term = impl.MaxTime, impl.MaxTime },
		"a Text of MaxText":       func(q *impl.Quorum) { q.Voters[0].Log[2].Text = long(100) },
		"an empty Text":           func(q *impl.Quorum) { q.Voters[0].Log[0].Text = "" },
		"Sealed 0":                func(q *impl.Quorum) { q.Voters[0].Sealed = 0 },
		"all sealed":              func(q *impl.Quorum) { q.Voters[0].Sealed, q.Voters[1].Sealed, q.Voters[2].Sealed = 3, 2, 2 },
		"Next 0":                  func(q *impl.Quorum) { q.Voters[0].Next = []int{0, 0, 0} },
		"Next all":                func(q *impl.Quorum) { q.Voters[0].Next = []int{3, 3, 3} },
		"Match 0":                 func(q *impl.Quorum) { q.Voters[0].Match = []int{0, 0, 0} },
		"Match all":               func(q *impl.Quorum) { q.Voters[0].Match = []int{3, 3, 3} },
		"Next and Match not nil":  func(q *impl.Quorum) { q.Voters[1].Next, q.Voters[1].Match = []int{}, []int{} },
		"two leaders of one Term": func(q *impl.Quorum) {
			q.Voters[2].Role, q.Voters[2].Next, q.Voters[2].Match = 2, []int{0, 1, 2}, []int{2, 1, 0}
		},
		"MaxNet":                      func(q *impl.Quorum) { q.Net = make([]impl.Message, 400) },
		"MaxCommands in a message":    func(q *impl.Quorum) { q.Net[1].Commands = manyCommands(200, 9) },
		"a message's Text of MaxText": func(q *impl.Quorum) { q.Net[1].Commands[0].Text = long(100) },
		"a message of no Kind":        func(q *impl.Quorum) { q.Net[0].Kind = 9 },
		"a message's fields out of all": func(q *impl.Quorum) {
			q.Net[0] = impl.Message{Kind: -1, From: -1, To: 9, Term: -1, At: -1, AtTerm: -1, Commands: ofTerms("b", 9, -1, 3), Sealed: -1}
		},
		"a message's greatest fields": func(q *impl.Quorum) {
			q.Net[1] = impl.Message{Kind: 3, From: math.MaxInt, To: math.MaxInt, Term: math.MaxInt, At: math.MaxInt, AtTerm: math.MaxInt, Sealed: math.MaxInt}
		},
	} {
		q := cabinet()
		do(&q)
		if !quorumOkAsTold(q) || !impl.QuorumOk(q) {
			t.Errorf("refused: %s", name)
		}
	}
}

// badQuorums are not right, each for one reason.
func badQuorums() map[string]quorumChange {
	return map[string]quorumChange{
		"the zero value":             func(q *impl.Quorum) { *q = impl.Quorum{} },
		"no voters":                  func(q *impl.Quorum) { q.Voters = nil },
		"one voter too many":         func(q *impl.Quorum) { *q = impl.Quorum{Voters: make([]impl.Voter, 6)} },
		"many too many":              func(q *impl.Quorum) { *q = impl.Quorum{Voters: make([]impl.Voter, 100)} },
		"Term below 0":               func(q *impl.Quorum) { q.Voters[1].Term, q.Voters[1].Log, q.Voters[1].Sealed = -1, nil, 0 },
		"Term beyond":                func(q *impl.Quorum) { q.Voters[1].Term = impl.MaxTime + 1 },
		"the last one's Term":        func(q *impl.Quorum) { q.Voters[2].Term = impl.MaxTime + 1 },
		"Vote below -1":              func(q *impl.Quorum) { q.Voters[0].Vote = -2 },
		"Vote beyond":                func(q *impl.Quorum) { q.Voters[1].Vote = 3 },
		"the last one's Vote":        func(q *impl.Quorum) { q.Voters[2].Vote = math.MaxInt },
		"Role below 0":               func(q *impl.Quorum) { q.Voters[1].Role = -1 },
		"Role beyond":                func(q *impl.Quorum) { q.Voters[0].Role = 3 },
		"Role beyond, nothing more":  func(q *impl.Quorum) { calm(q, 3) },
		"Votes falling":              func(q *impl.Quorum) { q.Voters[1].Votes = []int{1, 0} },
		"Votes with one twice":       func(q *impl.Quorum) { q.Voters[1].Votes = []int{1, 1} },
		"the last one twice":         func(q *impl.Quorum) { q.Voters[0].Votes = []int{0, 2, 2} },
		"Votes with none below":      func(q *impl.Quorum) { q.Voters[1].Votes = []int{-1, 1} },
		"Votes with none beyond":     func(q *impl.Quorum) { q.Voters[1].Votes = []int{1, 3} },
		"a follower's Votes":         func(q *impl.Quorum) { q.Voters[2].Votes = []int{3} },
		"one command too many":       func(q *impl.Quorum) { q.Voters[2].Log = manyCommands(201, 3) },
		"a leader's":                 func(q *impl.Quorum) { q.Voters[0].Log = manyCommands(201, 3) },
		"a command's Term above":     func(q *impl.Quorum) { q.Voters[0].Log[2].Term = 4 },
		"the first one's Term above": func(q *impl.Quorum) { q.Voters[2].Log = ofTerms("b", 4) },
		"a command's Term below 0":   func(q *impl.Quorum) { q.Voters[2].Log[0].Term = -1 },
		"Terms falling":              func(q *impl.Quorum) { q.Voters[2].Log = ofTerms("b", 2, 1) },
		"Terms falling at the end":   func(q *impl.Quorum) { q.Voters[2].Log = ofTerms("b", 0, 1, 3, 3, 2) },
		"a Text too long":            func(q *impl.Quorum) { q.Voters[0].Log[0].Text = long(101) },
		"the last Text too long":     func(q *impl.Quorum) { q.Voters[2].Log[1].Text = long(101) },
		"Sealed below 0":             func(q *impl.Quorum) { q.Voters[2].Sealed = -1 },
		"Sealed beyond":              func(q *impl.Quorum) { q.Voters[0].Sealed = 4 },
		"a follower's Sealed beyond": func(q *impl.Quorum) { q.Voters[2].Sealed = 3 },
		"Next empty":                 func(q *impl.Quorum) { q.Voters[0].Next = nil },
		"Next too few":               func(q *impl.Quorum) { q.Voters[0].Next = []int{3, 1} },
		"Next too many":              func(q *impl.Quorum) { q.Voters[0].Next = []int{3, 1, 0, 0} },
		"Next below 0":               func(q *impl.Quorum) { q.Voters[0].Next[2] = -1 },
		"Next beyond":                func(q *impl.Quorum) { q.Voters[0].Next[0] = 4 },
		"Next of another beyond":     func(q *impl.Quorum) { q.Voters[0].Next[1] = 4 },
		"Match empty":                func(q *impl.Quorum) { q.Voters[0].Match = nil },
		"Match too few":              func(q *impl.Quorum) { q.Voters[0].Match = []int{3, 1} },
		"Match too many":             func(q *impl.Quorum) { q.Voters[0].Match = []int{3, 1, 0, 0} },
		"Match below 0":              func(q *impl.Quorum) { q.Voters[0].Match[0] = -1 },
		"Match beyond":               func(q *impl.Quorum) { q.Voters[0].Match[2] = 4 },
		"Next of a candidate":        func(q *impl.Quorum) { q.Voters[1].Next = []int{0, 0, 0} },
		"Match of a candidate":       func(q *impl.Quorum) { q.Voters[1].Match = []int{0, 0, 0} },
		"Next of a follower":         func(q *impl.Quorum) { q.Voters[2].Next = []int{0, 0, 0} },
		"Match of a follower":        func(q *impl.Quorum) { q.Voters[2].Match = []int{0} },
		"both of one that led":       func(q *impl.Quorum) { q.Voters[0].Role = impl.Follower },
		"one message too many":       func(q *impl.Quorum) { q.Net = make([]impl.Message, 401) },
		"a message with too many":    func(q *impl.Quorum) { q.Net[1].Commands = manyCommands(201, 1) },
		"the first one":              func(q *impl.Quorum) { q.Net[0].Commands = manyCommands(201, 1) },
		"a message's Text too long":  func(q *impl.Quorum) { q.Net[1].Commands[0].Text = long(101) },
		"its last Text too long":     func(q *impl.Quorum) { q.Net[0].Commands = append(ofTerms("b", 1, 1), impl.Command{Text: long(101)}) },
		"the last of many": func(q *impl.Quorum) {
			q.Net = append(make([]impl.Message, 399), impl.Message{Commands: manyCommands(201, 1)})
		},
		"a leader that has no commands": func(q *impl.Quorum) { q.Voters[0].Log, q.Voters[0].Sealed = nil, 0 },
	}
}

// What is not right is refused by every function that takes a quorum, with the fixed answer of each.
func TestWhatIsNotAQuorumIsRefused(t *testing.T) {
	for name, do := range badQuorums() {
		q := cabinet()
		do(&q)
		if quorumOkAsTold(q) || impl.QuorumOk(q) {
			t.Errorf("taken: %s", name)
		}
		mustRefuseQuorum(t, name, q)
	}
}

func mustRefuseQuorum(t *testing.T, name string, q impl.Quorum) {
	t.Helper()
	for kind := range 9 {
		for at := -1; at <= 3; at++ {
			if x, ok := impl.DoEvent(q, impl.Event{Kind: kind, At: at, Text: "x"}); ok || !sameQuorum(x, impl.Quorum{}) {
				t.Errorf("DoEvent %d, %s: %t", kind, name, ok)
			}
		}
	}
	for _, count := range []int{0, 1, 401} {
		if x := impl.RunQuorum(q, make([]impl.Event, count)); !sameQuorum(x, impl.Quorum{}) {
			t.Errorf("RunQuorum, %s: %+v", name, x)
		}
	}
	if at := impl.LeaderOf(q); at != -1 {
		t.Errorf("LeaderOf, %s: %d", name, at)
	}
}

func TestNewQuorum(t *testing.T) {
	for voters := 1; voters <= 5; voters++ {
		q, want := impl.NewQuorum(voters), impl.Quorum{}
		for range voters {
			want.Voters = append(want.Voters, impl.Voter{Vote: -1})
		}
		if !sameQuorum(q, want) || !impl.QuorumOk(q) || impl.LeaderOf(q) != -1 {
			t.Errorf("NewQuorum(%d) is %+v", voters, q)
		}
	}
	for _, voters := range []int{math.MinInt, -5, -1, 0, 6, 7, math.MaxInt} {
		if q := impl.NewQuorum(voters); !sameQuorum(q, impl.Quorum{}) || impl.QuorumOk(q) {
			t.Errorf("NewQuorum(%d) is %+v", voters, q)
		}
	}
}

// leading makes a voter the leader of a Term.
func leading(q *impl.Quorum, at int, term int) {
	n := len(q.Voters)
	q.Voters[at] = impl.Voter{Term: term, Vote: at, Role: impl.Leader, Next: make([]int, n), Match: make([]int, n)}
}

func TestLeaderOf(t *testing.T) {
	for _, x := range []struct {
		name  string
		terms []int
		want  int
	}{
		{"nobody", []int{-1, -1, -1}, -1},
		{"the first", []int{3, -1, -1}, 0},
		{"one of Term 0", []int{-1, 0, -1}, 1},
		{"the last", []int{-1, -1, 1}, 2},
		{"two of unlike Terms", []int{3, -1, 5}, 2},
		{"the greater one ahead", []int{-1, 5, 3}, 1},
		{"two of one Term", []int{-1, 4, 4}, 1},
		{"all of one Term", []int{2, 2, 2}, 0},
		{"two behind a lesser", []int{1, 2, 2}, 1},
		{"all unlike", []int{2, 9, 4}, 1},
		{"the greatest Term", []int{7, impl.MaxTime, 8, impl.MaxTime, 9}, 1},
		{"alone", []int{1}, 0},
	} {
		q := impl.NewQuorum(len(x.terms))
		for at, term := range x.terms {
			if term >= 0 {
				leading(&q, at, term)
			}
		}
		if at := impl.LeaderOf(q); at != x.want {
			t.Errorf("%s: %d", x.name, at)
		}
	}
	q := cabinet()
	if at := impl.LeaderOf(q); at != 0 {
		t.Error("a candidate of a greater Term does not lead:", at)
	}
	q.Voters[2].Sealed = 3
	if at := impl.LeaderOf(q); at != -1 {
		t.Error("a quorum that is not right:", at)
	}
}

func ascendingTerms(r *rand.Rand, count int, least int, most int) []int {
	list := []int{}
	for range count {
		list = append(list, least+r.Intn(most-least+1))
	}
	slices.Sort(list)
	return list
}

func someOf(r *rand.Rand, n int) []int {
	list := []int{}
	for at := range n {
		if r.Intn(2) == 0 {
			list = append(list, at)
		}
	}
	return list
}

func upTo(r *rand.Rand, count int, most int) []int {
	list := []int{}
	for range count {
		list = append(list, r.Intn(most+1))
	}
	return list
}

// randomVoter is right, but for what no course from a new quorum would come to.
func randomVoter(r *rand.Rand, n int) impl.Voter {
	v := impl.Voter{Term: r.Intn(4), Vote: r.Intn(n+1) - 1, Role: r.Intn(3)}
	v.Log = ofTerms(pick(r, "a", "b"), ascendingTerms(r, r.Intn(5), 0, v.Term)...)
	v.Sealed = r.Intn(len(v.Log) + 1)
	if r.Intn(4) > 0 {
		v.Votes = someOf(r, n)
	}
	if v.Role == impl.Leader {
		v.Next, v.Match = upTo(r, n, len(v.Log)), upTo(r, n, len(v.Log))
	}
	return v
}

// randomMessage is most often one that is heeded.
func randomMessage(r *rand.Rand, n int) impl.Message {
	m := impl.Message{Kind: 1 + r.Intn(4), From: r.Intn(n), To: r.Intn(n), Term: r.Intn(5), At: r.Intn(5), Sealed: r.Intn(7), Yes: r.Intn(2) == 0}
	m.AtTerm = r.Intn(m.Term + 1)
	m.Commands = ofTerms("c", ascendingTerms(r, r.Intn(4), m.AtTerm, m.Term)...)
	switch r.Intn(24) {
	case 0:
		m.Kind = pick(r, -1, 0, 5, 6)
	case 1:
		m.From = pick(r, -1, n, m.To)
	case 2:
		m.To = pick(r, -1, n)
	case 3:
		m.Term = pick(r, -1, impl.MaxTime, impl.MaxTime+1)
	case 4:
		m.At = pick(r, -1, 200, 201, 199, 198)
	case 5:
		m.AtTerm = pick(r, -1, m.Term, m.Term+1)
	case 6:
		m.Commands = ofTerms("c", r.Intn(5), r.Intn(5))
	case 7:
		m.Sealed = pick(r, -1, 200, 201)
	}
	return m
}

func randomQuorum(r *rand.Rand) impl.Quorum {
	n := pick(r, 1, 2, 3, 3, 4, 5)
	q := impl.Quorum{}
	for range n {
		q.Voters = append(q.Voters, randomVoter(r, n))
	}
	for range r.Intn(7) {
		q.Net = append(q.Net, randomMessage(r, n))
	}
	if r.Intn(20) == 0 {
		for len(q.Net) < pick(r, 397, 398, 399, 400) {
			q.Net = append(q.Net, randomMessage(r, n))
		}
	}
	return q
}

func spoilVoter(r *rand.Rand, v *impl.Voter, n int) {
	switch r.Intn(8) {
	case 0:
		v.Term = pick(r, -1, impl.MaxTime, impl.MaxTime+1, v.Term-1)
	case 1:
		v.Vote = pick(r, -2, n, n-1)
	case 2:
		v.Role = r.Intn(6) - 1
	case 3:
		v.Votes = upTo(r, r.Intn(4), n)
	case 4:
		v.Log = ofTerms("d", upTo(r, r.Intn(4), v.Term+1)...)
	case 5:
		v.Sealed = pick(r, -1, len(v.Log), len(v.Log)+1)
	case 6:
		v.Next = upTo(r, n+r.Intn(3)-1, len(v.Log)+1)
	case 7:
		v.Match = upTo(r, n+r.Intn(3)-1, len(v.Log)+1)
	}
}

func TestQuorumOkIsAsTold(t *testing.T) {
	r := rand.New(rand.NewSource(71))
	right := 0
	for range 20000 {
		q := randomQuorum(r)
		for range r.Intn(3) {
			spoilVoter(r, &q.Voters[r.Intn(len(q.Voters))], len(q.Voters))
		}
		if impl.QuorumOk(q) != quorumOkAsTold(q) {
			t.Fatalf("QuorumOk is %t: %+v", impl.QuorumOk(q), q)
		}
		if quorumOkAsTold(q) {
			right++
		}
	}
	if right < 5000 || right > 15000 {
		t.Error("too many of the quorums to try are alike:", right)
	}
}
