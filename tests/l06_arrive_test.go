package tests

import (
	"math"
	"slices"
	"testing"

	"loop.example/g00035/impl"
)

// among is a quorum of so many voters, all new but this one, which is the second.
func among(n int, v impl.Voter) impl.Quorum {
	q := impl.NewQuorum(n)
	q.Voters[1] = v
	return q
}

// arrives lets a message arrive at the second voter, between two others that stay under way; it tells what becomes of the voter, and what is sent.
func arrives(t *testing.T, name string, n int, v impl.Voter, m impl.Message) (impl.Voter, []impl.Message) {
	t.Helper()
	q := among(n, v)
	m.To = 1
	others := []impl.Message{{Kind: impl.Took, From: 1, To: 0, At: 4}, {Kind: impl.Carry, From: 0, To: 1, Term: 9}}
	q.Net = []impl.Message{others[0], m, others[1]}
	x := happens(t, name, q, ev(impl.EvCarry, 1))
	mustLeaveOthers(t, name, q, x, 1)
	mustSend(t, name+", of the others", x.Net[:2], others...)
	return x.Voters[1], x.Net[2:]
}

func given(term int, yes bool) impl.Message {
	return impl.Message{Kind: impl.GiveVote, From: 1, To: 0, Term: term, Yes: yes}
}

func tookBack(term int, at int, yes bool) impl.Message {
	return impl.Message{Kind: impl.Took, From: 1, To: 0, Term: term, At: at, Yes: yes}
}

// leaderOfThree is the second of three, and leads the Term 5.
func leaderOfThree() impl.Voter {
	return impl.Voter{Term: 5, Vote: 1, Role: impl.Leader, Votes: []int{1, 2}, Log: ofTerms("a", 1, 2, 5), Next: []int{3, 3, 1}, Match: []int{0, 3, 0}, Sealed: 1}
}

func candidateOfThree() impl.Voter {
	return impl.Voter{Term: 5, Vote: 1, Role: impl.Candidate, Votes: []int{1}, Log: ofTerms("a", 1, 2, 5), Sealed: 1}
}

func followerOfThree() impl.Voter {
	return impl.Voter{Term: 5, Vote: -1, Log: ofTerms("a", 1, 2, 5), Sealed: 1}
}

func TestMessagesThatAreAsIfTheyWereLost(t *testing.T) {
	right := impl.Message{Kind: impl.Carry, From: 0, To: 1, Term: 6, At: 3, AtTerm: 5, Commands: ofTerms("c", 5, 6), Sealed: 4}
	for name, do := range map[string]func(m *impl.Message){
		"From below 0":              func(m *impl.Message) { m.From = -1 },
		"From just beyond":          func(m *impl.Message) { m.From = 3 },
		"From the greatest number":  func(m *impl.Message) { m.From = math.MaxInt },
		"To below 0":                func(m *impl.Message) { m.To = -1 },
		"To just beyond":            func(m *impl.Message) { m.To = 3 },
		"To the least number":       func(m *impl.Message) { m.To = math.MinInt },
		"From is To":                func(m *impl.Message) { m.From = 1 },
		"Term below 0":              func(m *impl.Message) { m.Term, m.AtTerm, m.Commands = -1, -1, nil },
		"Term beyond":               func(m *impl.Message) { m.Term = impl.MaxTime + 1 },
		"Term the greatest number":  func(m *impl.Message) { m.Term = math.MaxInt },
		"At below 0":                func(m *impl.Message) { m.At = -1 },
		"At the least number":       func(m *impl.Message) { m.At = math.MinInt },
		"At beyond":                 func(m *impl.Message) { m.At, m.Commands = 201, nil },
		"At the greatest number":    func(m *impl.Message) { m.At = math.MaxInt },
		"Sealed below 0":            func(m *impl.Message) { m.Sealed = -1 },
		"Sealed beyond":             func(m *impl.Message) { m.Sealed = 201 },
		"AtTerm below 0":            func(m *impl.Message) { m.AtTerm = -1 },
		"AtTerm below 0, bare":      func(m *impl.Message) { m.AtTerm, m.Commands = -1, nil },
		"AtTerm above Term":         func(m *impl.Message) { m.AtTerm, m.Commands = 7, nil },
		"a command's Term above":    func(m *impl.Message) { m.Commands = ofTerms("c", 5, 7) },
		"a command's Term below 0":  func(m *impl.Message) { m.AtTerm, m.Commands = 0, ofTerms("c", -1, 0) },
		"Terms that fall":           func(m *impl.Message) { m.Commands = ofTerms("c", 6, 5) },
		"the last Term falls":       func(m *impl.Message) { m.AtTerm, m.Commands = 0, ofTerms("c", 1, 3, 2) },
		"a Term below AtTerm":       func(m *impl.Message) { m.Commands = ofTerms("c", 4, 6) },
		"At 0, a Term below AtTerm": func(m *impl.Message) { m.At, m.Commands = 0, ofTerms("c", 4, 6) },
		"one more than MaxCommands": func(m *impl.Message) { m.At = 199 },
		"such a one behind At 1":    func(m *impl.Message) { m.At, m.Commands = 1, manyCommands(200, 6) },
	} {
		m := right
		do(&m)
		for kind := range 6 {
			m.Kind = kind
			for _, v := range []impl.Voter{leaderOfThree(), candidateOfThree(), followerOfThree()} {
				q := among(3, v)
				q.Net = []impl.Message{right, m, right}
				x := happens(t, name, q, ev(impl.EvCarry, 1))
				q.Net = []impl.Message{right, right}
				if !sameQuorum(x, q) {
					t.Errorf("%s, of Kind %d: %+v", name, kind, x)
				}
			}
		}
	}
}

// A message just at a bound is heard: its Term is learned, and it is answered.
func TestMessagesJustAtTheirBounds(t *testing.T) {
	for name, do := range map[string]func(m *impl.Message){
		"as it is":              func(m *impl.Message) {},
		"the first one's":       func(m *impl.Message) { m.From = 0 },
		"the greatest Term":     func(m *impl.Message) { m.Term = impl.MaxTime },
		"the greatest Terms":    func(m *impl.Message) { m.Term, m.Commands = impl.MaxTime, ofTerms("c", 5, impl.MaxTime) },
		"the greatest AtTerm":   func(m *impl.Message) { m.Term, m.AtTerm, m.Commands = impl.MaxTime, impl.MaxTime, nil },
		"AtTerm is Term":        func(m *impl.Message) { m.AtTerm, m.Commands = 6, ofTerms("c", 6, 6) },
		"AtTerm 0":              func(m *impl.Message) { m.AtTerm, m.Commands = 0, ofTerms("c", 0, 6) },
		"a Term at AtTerm":      func(m *impl.Message) { m.Commands = ofTerms("c", 5, 5) },
		"At 0":                  func(m *impl.Message) { m.At = 0 },
		"At MaxCommands":        func(m *impl.Message) { m.At, m.Commands = 200, nil },
		"just MaxCommands":      func(m *impl.Message) { m.At = 198 },
		"MaxCommands behind 0":  func(m *impl.Message) { m.At, m.Commands = 0, manyCommands(200, 6) },
		"Sealed 0":              func(m *impl.Message) { m.Sealed = 0 },
		"Sealed MaxCommands":    func(m *impl.Message) { m.Sealed = 200 },
		"Texts of no length":    func(m *impl.Message) { m.Commands = []impl.Command{{Term: 5}, {Term: 6}} },
		"Texts of MaxText":      func(m *impl.Message) { m.Commands[0].Text = long(100) },
		"without commands":      func(m *impl.Message) { m.Commands = nil },
		"without commands, Yes": func(m *impl.Message) { m.Commands, m.Yes = nil, true },
	} {
		for kind := range 6 {
			m := impl.Message{Kind: kind, From: 2, Term: 6, At: 3, AtTerm: 5, Commands: ofTerms("c", 5, 6), Sealed: 4}
			do(&m)
			answers := map[int]int{impl.AskVote: 1, impl.Carry: 1}[kind]
			for _, v := range []impl.Voter{leaderOfThree(), candidateOfThree(), followerOfThree()} {
				v, sent := arrives(t, name, 3, v, m)
				if v.Term != m.Term || v.Role != impl.Follower || len(v.Votes)+len(v.Next)+len(v.Match) > 0 || len(sent) != answers {
					t.Errorf("%s, of Kind %d: %+v sends %+v", name, kind, v, sent)
				}
			}
		}
	}
	m := impl.Message{Kind: impl.Carry, From: 0}
	v, sent := arrives(t, "Term 0", 3, impl.Voter{Vote: -1}, m)
	mustBeVoter(t, "Term 0", v, impl.Voter{Vote: -1})
	mustSend(t, "Term 0", sent, tookBack(0, 0, true))
}

// The Term is learned first, whatever the Kind: one above the voter's makes it a follower that has voted for nobody.
func TestTermsAreLearnedFirst(t *testing.T) {
	for kind := range 6 {
		for _, v := range []impl.Voter{leaderOfThree(), candidateOfThree(), followerOfThree()} {
			v.Vote = 2
			m := impl.Message{Kind: kind, From: 0, At: 2, AtTerm: 2, Sealed: 9}
			for term := 2; term <= 5; term++ {
				m.Term = term
				x, _ := arrives(t, "not above", 3, v, m)
				if x.Term != 5 || x.Vote != 2 || x.Role != v.Role && (kind != impl.Carry || term < 5) {
					t.Errorf("Kind %d, the Term %d: %+v", kind, term, x)
				}
			}
			m.Term, m.AtTerm = 6, 4
			x, _ := arrives(t, "above", 3, v, m)
			mustBeVoter(t, "above", x, impl.Voter{Term: 6, Vote: -1, Log: v.Log, Sealed: 1})
			m.Term, m.Yes = impl.MaxTime, true
			x, _ = arrives(t, "far above", 3, v, m)
			mustBeVoter(t, "far above", x, impl.Voter{Term: impl.MaxTime, Vote: -1, Log: v.Log, Sealed: 1})
		}
	}
}

func TestArrivingAskVote(t *testing.T) {
	voted := followerOfThree()
	voted.Vote = 2
	same := followerOfThree()
	same.Vote = 0
	odd := leaderOfThree()
	odd.Vote = -1
	loose := candidateOfThree()
	loose.Vote = -1
	none := impl.Voter{Term: 5, Vote: -1}
	for _, x := range []struct {
		name   string
		voter  impl.Voter
		term   int
		at     int
		atTerm int
		yes    bool
	}{
		{"a last alike", followerOfThree(), 5, 3, 5, true},
		{"one that has voted for another", voted, 5, 3, 5, false},
		{"for the same", same, 5, 3, 5, true},
		{"a leader", leaderOfThree(), 5, 9, 5, false},
		{"a leader without a Vote", odd, 5, 9, 5, false},
		{"a candidate", candidateOfThree(), 5, 9, 5, false},
		{"a candidate without a Vote", loose, 5, 3, 5, true},
		{"a Term below", followerOfThree(), 4, 9, 4, false},
		{"a Term below, Vote the same", same, 4, 9, 4, false},
		{"a Term above", followerOfThree(), 6, 3, 5, true},
		{"a Term above, voted for another", voted, 6, 3, 5, true},
		{"a Term above, a leader", leaderOfThree(), 6, 3, 5, true},
		{"a Term above, a candidate", candidateOfThree(), 6, 3, 5, true},
		{"a Term above, behind by AtTerm", leaderOfThree(), 6, 200, 4, false},
		{"a Term above, behind by At", leaderOfThree(), 6, 2, 5, false},
		{"behind by At", followerOfThree(), 5, 2, 5, false},
		{"behind by AtTerm", followerOfThree(), 5, 3, 4, false},
		{"behind by AtTerm, ahead by At", followerOfThree(), 5, 200, 4, false},
		{"ahead by At", followerOfThree(), 5, 4, 5, true},
		{"ahead by AtTerm", followerOfThree(), 7, 3, 6, true},
		{"ahead by AtTerm, behind by At", followerOfThree(), 7, 1, 6, true},
		{"ahead by AtTerm, At 0", followerOfThree(), 7, 0, 7, true},
		{"no commands", followerOfThree(), 5, 0, 0, false},
		{"no commands in both", none, 5, 0, 0, true},
		{"no commands in the voter's", none, 5, 1, 0, true},
		{"behind, Vote the same", same, 5, 2, 5, false},
	} {
		m := impl.Message{Kind: impl.AskVote, From: 0, Term: x.term, At: x.at, AtTerm: x.atTerm}
		v, sent := arrives(t, x.name, 3, x.voter, m)
		want := x.voter
		if x.term > 5 {
			want = impl.Voter{Term: x.term, Vote: -1, Log: want.Log, Sealed: want.Sealed}
		}
		if x.yes {
			want.Vote = 0
		}
		mustBeVoter(t, x.name, v, want)
		mustSend(t, x.name, sent, given(want.Term, x.yes))
	}
}

func TestArrivingGiveVote(t *testing.T) {
	yes := func(from int, term int) impl.Message {
		return impl.Message{Kind: impl.GiveVote, From: from, Term: term, Yes: true}
	}
	v, sent := arrives(t, "just more than half of three", 3, candidateOfThree(), yes(2, 5))
	led := impl.Voter{Term: 5, Vote: 1, Role: impl.Leader, Votes: []int{1, 2}, Log: ofTerms("a", 1, 2, 5), Next: []int{3, 3, 3}, Match: []int{0, 3, 0}, Sealed: 1}
	mustBeVoter(t, "just more than half of three", v, led)
	mustSend(t, "just more than half of three", sent)
	v, sent = arrives(t, "to one that leads already", 3, v, yes(0, 5))
	mustBeVoter(t, "to one that leads already", v, led)
	mustSend(t, "to one that leads already", sent)

	refused := yes(2, 5)
	refused.Yes = false
	for name, x := range map[string]struct {
		voter impl.Voter
		m     impl.Message
	}{
		"without Yes":                {candidateOfThree(), refused},
		"to a leader":                {leaderOfThree(), yes(0, 5)},
		"to a leader, a Term below":  {leaderOfThree(), yes(0, 4)},
		"to a follower":              {followerOfThree(), yes(2, 5)},
		"to a follower that votes 1": {impl.Voter{Term: 5, Vote: 1}, yes(2, 5)},
		"a Term below":               {candidateOfThree(), yes(2, 4)},
	} {
		v, sent := arrives(t, name, 3, x.voter, x.m)
		mustBeVoter(t, name, v, x.voter)
		mustSend(t, name, sent)
	}
	v, _ = arrives(t, "a Term above", 3, candidateOfThree(), yes(2, 6))
	mustBeVoter(t, "a Term above", v, impl.Voter{Term: 6, Vote: -1, Log: ofTerms("a", 1, 2, 5), Sealed: 1})
	refused.Term = 6
	v, _ = arrives(t, "a Term above to a leader", 3, leaderOfThree(), refused)
	mustBeVoter(t, "a Term above to a leader", v, impl.Voter{Term: 6, Vote: -1, Log: ofTerms("a", 1, 2, 5), Sealed: 1})
}

// Votes are counted once each, in their order, until they are more than half.
func TestVotesAreCounted(t *testing.T) {
	for n, order := range map[int][]int{2: {0}, 3: {2}, 4: {3, 0}, 5: {4, 0}} {
		v := impl.Voter{Term: 1, Vote: 1, Role: impl.Candidate, Votes: []int{1}}
		for i, from := range order {
			for range 3 {
				if v.Role != impl.Candidate {
					t.Fatalf("%d of %d make a leader: %+v", i, n, v)
				}
				x, sent := arrives(t, "a vote", n, v, impl.Message{Kind: impl.GiveVote, From: from, Term: 1, Yes: true})
				mustSend(t, "a vote", sent)
				v = x
				if i == len(order)-1 {
					break
				}
			}
		}
		votes := append([]int{1}, order...)
		slices.Sort(votes)
		mustBeVoter(t, "the last vote", v, impl.Voter{Term: 1, Vote: 1, Role: impl.Leader, Votes: votes, Next: make([]int, n), Match: make([]int, n)})
	}
	many := impl.Voter{Term: 1, Vote: 1, Role: impl.Candidate, Votes: []int{0, 1}}
	if v, _ := arrives(t, "one that was counted, and they are enough", 3, many, impl.Message{Kind: impl.GiveVote, From: 0, Term: 1, Yes: true}); v.Role != impl.Leader || !slices.Equal(v.Votes, []int{0, 1}) {
		t.Errorf("votes that are more than half make a leader: %+v", v)
	}
	bare := impl.Voter{Term: 1, Vote: 1, Role: impl.Candidate}
	if v, _ := arrives(t, "a first vote of two", 2, bare, impl.Message{Kind: impl.GiveVote, From: 0, Term: 1, Yes: true}); v.Role != impl.Candidate || !slices.Equal(v.Votes, []int{0}) {
		t.Errorf("half of two is not more than half: %+v", v)
	}
}

// A carrying is a Carry to the second of three, a follower of Term 5, and what comes of it.
type carrying struct {
	name     string
	own      []impl.Command
	sealed   int
	at       int
	atTerm   int
	commands []impl.Command
	told     int
	log      []impl.Command
	then     int
	took     int
	yes      bool
}

func mustCarry(t *testing.T, x carrying) {
	t.Helper()
	m := impl.Message{Kind: impl.Carry, From: 0, Term: 5, At: x.at, AtTerm: x.atTerm, Commands: x.commands, Sealed: x.told}
	for _, v := range []impl.Voter{
		{Term: 5, Vote: 2, Log: x.own, Sealed: x.sealed},
		{Term: 5, Vote: 2, Log: x.own, Sealed: x.sealed, Votes: []int{0, 2}},
		{Term: 5, Vote: 2, Log: x.own, Sealed: x.sealed, Role: impl.Candidate, Votes: []int{1}},
	} {
		got, sent := arrives(t, x.name, 3, v, m)
		mustBeVoter(t, x.name, got, impl.Voter{Term: 5, Vote: 2, Log: x.log, Sealed: x.then})
		mustSend(t, x.name, sent, tookBack(5, x.took, x.yes))
	}
}

func joined(lists ...[]impl.Command) []impl.Command {
	return slices.Concat(lists...)
}

func TestArrivingCarry(t *testing.T) {
	a := ofTerms("a", 1, 2, 2, 4)
	c := ofTerms("c", 1, 2, 2, 4, 5, 5)
	for _, x := range []carrying{
		{"nothing to nothing", nil, 0, 0, 0, nil, 0, nil, 0, 0, true},
		{"all to nothing", nil, 0, 0, 0, c, 0, c, 0, 6, true},
		{"At 0 with any AtTerm", a, 0, 0, 1, nil, 0, a, 0, 0, true},
		{"At 0 with any AtTerm, commands", a, 0, 0, 4, ofTerms("c", 4, 5), 0, ofTerms("c", 4, 5), 0, 2, true},
		{"just behind the log", a, 0, 4, 4, c[4:], 0, joined(a, c[4:]), 0, 6, true},
		{"nothing behind the log", a, 0, 4, 4, nil, 0, a, 0, 4, true},
		{"At beyond the log by one", a, 0, 5, 4, nil, 9, a, 0, 5, false},
		{"At beyond the log, commands", a, 1, 5, 5, c[5:], 9, a, 1, 5, false},
		{"At beyond a log without any", nil, 0, 1, 0, c[1:], 9, nil, 0, 1, false},
		{"an AtTerm that is less", a, 1, 4, 3, c[4:], 9, a, 1, 4, false},
		{"an AtTerm that is more", a, 1, 4, 5, c[4:], 9, a, 1, 4, false},
		{"an AtTerm unlike within", a, 1, 2, 1, c[2:], 9, a, 1, 2, false},
		{"all are there already", a, 0, 0, 0, c[:4], 0, a, 0, 4, true},
		{"some, behind At, are there already", a, 0, 1, 1, c[1:3], 0, a, 0, 3, true},
		{"one is there already, the log goes on", a, 0, 2, 2, c[2:3], 0, a, 0, 3, true},
		{"nothing, and the log goes on", a, 0, 2, 2, nil, 0, a, 0, 2, true},
		{"they are there in part", a, 0, 2, 2, c[2:], 0, joined(a, c[4:]), 0, 6, true},
		{"all there in part", a, 0, 0, 0, c, 0, joined(a, c[4:]), 0, 6, true},
		{"the first is unlike", a, 0, 1, 1, ofTerms("c", 5), 0, joined(a[:1], ofTerms("c", 5)), 0, 2, true},
		{"the first is unlike, as many", a, 0, 1, 1, ofTerms("c", 5, 5, 5), 0, joined(a[:1], ofTerms("c", 5, 5, 5)), 0, 4, true},
		{"the last is unlike", a, 0, 1, 1, ofTerms("c", 2, 2, 5), 0, joined(a[:3], ofTerms("c", 2, 2, 5)[2:]), 0, 4, true},
		{"one within is unlike, then alike", a, 0, 1, 1, ofTerms("c", 2, 3, 4), 0, joined(a[:2], ofTerms("c", 2, 3, 4)[1:]), 0, 4, true},
		{"one of a lesser Term", a, 0, 1, 1, ofTerms("c", 1), 0, joined(a[:1], ofTerms("c", 1)), 0, 2, true},
		{"At 0, all unlike", a, 0, 0, 0, ofTerms("c", 5, 5), 0, ofTerms("c", 5, 5), 0, 2, true},
	} {
		mustCarry(t, x)
	}
}

func TestWhatACarrySeals(t *testing.T) {
	a := ofTerms("a", 1, 2, 2, 4)
	c := ofTerms("c", 1, 2, 2, 4, 5, 5)
	for _, x := range []carrying{
		{"below what is there", a, 3, 2, 2, c[2:4], 2, a, 3, 4, true},
		{"at what is there", a, 3, 2, 2, c[2:4], 3, a, 3, 4, true},
		{"one above", a, 2, 2, 2, c[2:4], 3, a, 3, 4, true},
		{"just all", a, 2, 2, 2, c[2:4], 4, a, 4, 4, true},
		{"more than all", a, 2, 2, 2, c[2:4], 5, a, 4, 4, true},
		{"far more", a, 0, 2, 2, c[2:4], 200, a, 4, 4, true},
		{"more than it tells of, the log goes on", a, 0, 1, 1, c[1:2], 4, a, 2, 2, true},
		{"no commands", a, 0, 3, 2, nil, 4, a, 3, 3, true},
		{"no commands, no more than is there", a, 3, 2, 2, nil, 4, a, 3, 2, true},
		{"At 0 without commands", a, 0, 0, 0, nil, 4, a, 0, 0, true},
		{"what it brings", a, 1, 4, 4, c[4:], 5, joined(a, c[4:]), 5, 6, true},
		{"all that it brings", a, 1, 4, 4, c[4:], 9, joined(a, c[4:]), 6, 6, true},
		{"nothing when it is refused", a, 1, 5, 4, nil, 4, a, 1, 5, false},
		{"what was sealed is cut, which no course does", a, 4, 1, 1, ofTerms("c", 5), 0, joined(a[:1], ofTerms("c", 5)), 2, 2, true},
		{"cut, and more is told", a, 3, 0, 0, ofTerms("c", 5), 9, ofTerms("c", 5), 1, 1, true},
	} {
		mustCarry(t, x)
	}
}

func TestACarryOfAnotherTerm(t *testing.T) {
	m := impl.Message{Kind: impl.Carry, From: 0, Term: 4, At: 3, AtTerm: 2, Commands: ofTerms("c", 4), Sealed: 9}
	for name, v := range map[string]impl.Voter{"a leader": leaderOfThree(), "a candidate": candidateOfThree(), "a follower": followerOfThree()} {
		got, sent := arrives(t, name+", a Term below", 3, v, m)
		mustBeVoter(t, name+", a Term below", got, v)
		mustSend(t, name+", a Term below", sent, tookBack(5, 3, false))

		m := impl.Message{Kind: impl.Carry, From: 0, Term: 6, At: 2, AtTerm: 2, Commands: ofTerms("c", 6, 6), Sealed: 3}
		got, sent = arrives(t, name+", a Term above", 3, v, m)
		mustBeVoter(t, name+", a Term above", got, impl.Voter{Term: 6, Vote: -1, Log: joined(ofTerms("a", 1, 2), ofTerms("c", 6, 6)), Sealed: 3})
		mustSend(t, name+", a Term above", sent, tookBack(6, 4, true))

		m.At = 4
		got, sent = arrives(t, name+", refused", 3, v, m)
		mustBeVoter(t, name+", refused", got, impl.Voter{Term: 6, Vote: -1, Log: v.Log, Sealed: 1})
		mustSend(t, name+", refused", sent, tookBack(6, 4, false))
	}
	m.Term, m.AtTerm, m.Commands = 5, 5, ofTerms("c", 5)
	v, sent := arrives(t, "to a leader of that Term", 3, leaderOfThree(), m)
	mustBeVoter(t, "to a leader of that Term", v, leaderOfThree())
	mustSend(t, "to a leader of that Term", sent)
}

// leaderOfFive is the second of five, and leads the Term 5 with six commands of the Terms 1, 2, 5, 5, 5, 5.
func leaderOfFive(match ...int) impl.Voter {
	return impl.Voter{Term: 5, Vote: 1, Role: impl.Leader, Votes: []int{0, 1, 4}, Log: ofTerms("a", 1, 2, 5, 5, 5, 5), Next: []int{6, 6, 4, 0, 1}, Match: match}
}

func TestArrivingTook(t *testing.T) {
	for _, x := range []struct {
		name  string
		from  int
		at    int
		yes   bool
		next  []int
		match []int
	}{
		{"with Yes", 2, 5, true, []int{6, 6, 5, 0, 1}, []int{0, 6, 5, 0, 1}},
		{"with Yes, all", 0, 6, true, []int{6, 6, 4, 0, 1}, []int{6, 6, 1, 0, 1}},
		{"with Yes, as many as are known", 2, 1, true, []int{6, 6, 1, 0, 1}, []int{0, 6, 1, 0, 1}},
		{"with Yes, fewer: it comes late", 2, 0, true, []int{6, 6, 1, 0, 1}, []int{0, 6, 1, 0, 1}},
		{"with Yes, one more", 4, 2, true, []int{6, 6, 4, 0, 2}, []int{0, 6, 1, 0, 2}},
		{"with Yes, beyond its commands", 2, 7, true, []int{6, 6, 4, 0, 1}, []int{0, 6, 1, 0, 1}},
		{"without Yes, at Next", 2, 4, false, []int{6, 6, 3, 0, 1}, []int{0, 6, 1, 0, 1}},
		{"without Yes, below Next", 2, 2, false, []int{6, 6, 1, 0, 1}, []int{0, 6, 1, 0, 1}},
		{"without Yes, above Next: it comes late", 2, 6, false, []int{6, 6, 3, 0, 1}, []int{0, 6, 1, 0, 1}},
		{"without Yes, at 1", 4, 1, false, []int{6, 6, 4, 0, 0}, []int{0, 6, 1, 0, 1}},
		{"without Yes, at 0", 2, 0, false, []int{6, 6, 0, 0, 1}, []int{0, 6, 1, 0, 1}},
		{"without Yes, Next is 0", 3, 3, false, []int{6, 6, 4, 0, 1}, []int{0, 6, 1, 0, 1}},
		{"without Yes, both 0", 3, 0, false, []int{6, 6, 4, 0, 1}, []int{0, 6, 1, 0, 1}},
		{"without Yes, beyond its commands", 2, 7, false, []int{6, 6, 4, 0, 1}, []int{0, 6, 1, 0, 1}},
	} {
		lead := leaderOfFive(0, 6, 1, 0, 1)
		v, sent := arrives(t, x.name, 5, lead, impl.Message{Kind: impl.Took, From: x.from, Term: 5, At: x.at, Yes: x.yes})
		want := lead
		want.Next, want.Match = x.next, x.match
		mustBeVoter(t, x.name, v, want)
		mustSend(t, x.name, sent)
	}
}

func TestTookToOneThatDoesNotLeadThatTerm(t *testing.T) {
	for _, yes := range []bool{false, true} {
		m := impl.Message{Kind: impl.Took, From: 0, Term: 5, At: 2, Yes: yes}
		for _, v := range []impl.Voter{candidateOfThree(), followerOfThree()} {
			got, sent := arrives(t, "not to a leader", 3, v, m)
			mustBeVoter(t, "not to a leader", got, v)
			mustSend(t, "not to a leader", sent)
		}
		m.Term = 4
		got, sent := arrives(t, "of a Term below", 3, leaderOfThree(), m)
		mustBeVoter(t, "of a Term below", got, leaderOfThree())
		mustSend(t, "of a Term below", sent)
		m.Term = 6
		got, sent = arrives(t, "of a Term above", 3, leaderOfThree(), m)
		mustBeVoter(t, "of a Term above", got, impl.Voter{Term: 6, Vote: -1, Log: ofTerms("a", 1, 2, 5), Sealed: 1})
		mustSend(t, "of a Term above", sent)
	}
}

func TestWhatIsSealedByATook(t *testing.T) {
	for _, x := range []struct {
		name   string
		match  []int
		sealed int
		from   int
		at     int
		yes    bool
		want   int
	}{
		{"a majority just", []int{4, 6, 0, 0, 0}, 0, 2, 4, true, 4},
		{"one fewer", []int{4, 6, 0, 0, 0}, 0, 2, 0, true, 0},
		{"all of them", []int{6, 6, 0, 0, 0}, 0, 4, 6, true, 6},
		{"what a majority has, no more", []int{6, 6, 0, 0, 0}, 0, 4, 5, true, 5},
		{"what the lesser has", []int{3, 6, 0, 0, 0}, 0, 3, 6, true, 3},
		{"a command of an elder Term", []int{2, 6, 0, 0, 0}, 0, 3, 2, true, 0},
		{"it has more, the others an elder one", []int{1, 6, 2, 1, 0}, 0, 4, 6, true, 0},
		{"the first of its Term, with those ahead", []int{3, 6, 2, 2, 0}, 0, 3, 3, true, 3},
		{"no more than is sealed", []int{4, 6, 0, 0, 0}, 4, 2, 4, true, 4},
		{"fewer than are sealed", []int{3, 6, 0, 0, 0}, 5, 2, 3, true, 5},
		{"one above what is sealed", []int{5, 6, 0, 0, 0}, 4, 2, 5, true, 5},
		{"without Yes, and a majority has them", []int{4, 6, 4, 0, 0}, 0, 3, 4, false, 4},
		{"without Yes, and one fewer", []int{4, 6, 0, 0, 0}, 0, 3, 4, false, 0},
		{"beyond its commands seals nothing", []int{4, 6, 4, 0, 0}, 0, 3, 7, true, 0},
		{"all others, not itself", []int{4, 0, 4, 0, 0}, 0, 3, 4, true, 4},
	} {
		lead := leaderOfFive(x.match...)
		lead.Sealed = x.sealed
		v, _ := arrives(t, x.name, 5, lead, impl.Message{Kind: impl.Took, From: x.from, Term: 5, At: x.at, Yes: x.yes})
		if v.Sealed != x.want {
			t.Errorf("%s: sealed are %d, not %d", x.name, v.Sealed, x.want)
		}
	}
	for n := 2; n <= 5; n++ {
		lead := leaderOfFive(make([]int, n)...)
		lead.Votes, lead.Next, lead.Match[1] = nil, lead.Next[:n], 6
		for have, from := range slices.Collect(allBut(n, 1)) {
			v, _ := arrives(t, "one more", n, lead, impl.Message{Kind: impl.Took, From: from, Term: 5, At: 6, Yes: true})
			if most := have+2 > n/2; (v.Sealed == 6) != most || !most && v.Sealed != 0 {
				t.Errorf("%d of %d have all: sealed are %d", have+2, n, v.Sealed)
			}
			lead = v
		}
	}
}

func allBut(n int, at int) func(yield func(int) bool) {
	return func(yield func(int) bool) {
		for i := range n {
			if i != at && !yield(i) {
				return
			}
		}
	}
}
