package tests

import (
	"math/rand"
	"slices"
	"strconv"
	"testing"

	"loop.example/g00035/impl"
)

// A ballot remembers who led and what was sealed, along a course of events.
type ballot struct {
	leaders map[int]int
	sealed  []impl.Command
	own     [][]impl.Command
}

func newBallot(voters int) *ballot {
	return &ballot{leaders: map[int]int{}, own: make([][]impl.Command, voters)}
}

// look holds a quorum against all that was seen ahead of it: promises 11 and 12.
func (b *ballot) look(t *testing.T, q impl.Quorum) {
	t.Helper()
	for at, v := range q.Voters {
		if v.Role == impl.Leader {
			if led, ok := b.leaders[v.Term]; ok && led != at {
				t.Fatalf("%d and %d lead the Term %d: %+v", led, at, v.Term, q)
			}
			b.leaders[v.Term] = at
		}
		if had := b.own[at]; v.Sealed < len(had) || !slices.Equal(v.Log[:len(had)], had) {
			t.Fatalf("voter %d has %+v, of which %d are sealed, and had sealed %+v", at, v.Log, v.Sealed, had)
		}
		b.own[at] = slices.Clone(v.Log[:v.Sealed])
		both := min(v.Sealed, len(b.sealed))
		if !slices.Equal(v.Log[:both], b.sealed[:both]) {
			t.Fatalf("voter %d has sealed %+v, where %+v was", at, b.own[at], b.sealed)
		}
		b.sealed = append(b.sealed, b.own[at][both:]...)
	}
}

// A temper says how often events of each Kind come, by their numbers.
type temper [8]int

func tempers() []temper {
	return []temper{
		{impl.EvWake: 1, impl.EvTell: 12, impl.EvBeat: 14, impl.EvCarry: 70, impl.EvLose: 2, impl.EvTwice: 2, impl.EvRestart: 1},
		{impl.EvWake: 3, impl.EvTell: 14, impl.EvBeat: 14, impl.EvCarry: 56, impl.EvLose: 6, impl.EvTwice: 6, impl.EvRestart: 2},
		{impl.EvWake: 9, impl.EvTell: 14, impl.EvBeat: 10, impl.EvCarry: 50, impl.EvLose: 4, impl.EvTwice: 8, impl.EvRestart: 5},
		{impl.EvWake: 3, impl.EvTell: 12, impl.EvBeat: 12, impl.EvCarry: 44, impl.EvLose: 14, impl.EvTwice: 4, impl.EvRestart: 3},
		{impl.EvWake: 3, impl.EvTell: 12, impl.EvBeat: 12, impl.EvCarry: 48, impl.EvTwice: 20, impl.EvRestart: 3},
	}
}

func (x temper) kind(r *rand.Rand) int {
	sum := 0
	for _, weight := range x {
		sum += weight
	}
	left := r.Intn(sum)
	for kind, weight := range x {
		if left -= weight; left < 0 {
			return kind
		}
	}
	return 0
}

// A quorumCourse is a course event by event, from a new quorum on; some voters are away for a while, and what goes from and to them waits. With more under way than its patience, most of it arrives or is lost.
type quorumCourse struct {
	temper   temper
	patience int
	away     []bool
	events   []impl.Event
	quorum   impl.Quorum
	ballot   *ballot
	rivals   int
	unlike   int
}

// voter is one of those that it takes, or -1.
func (c *quorumCourse) voter(r *rand.Rand, takes func(at int, v impl.Voter) bool) int {
	list := []int{}
	for at, v := range c.quorum.Voters {
		if takes(at, v) {
			list = append(list, at)
		}
	}
	if len(list) == 0 {
		return -1
	}
	return pick(r, list...)
}

func (c *quorumCourse) leader(r *rand.Rand) int {
	return c.voter(r, func(at int, v impl.Voter) bool { return v.Role == impl.Leader })
}

func (c *quorumCourse) leaderThatIsThere(r *rand.Rand) int {
	return c.voter(r, func(at int, v impl.Voter) bool { return v.Role == impl.Leader && !c.away[at] })
}

func (c *quorumCourse) wakes(r *rand.Rand) impl.Event {
	return ev(impl.EvWake, c.voter(r, func(at int, v impl.Voter) bool { return !c.away[at] }))
}

// underWay are the places of messages between voters that are there.
func (c *quorumCourse) underWay() []int {
	list := []int{}
	for place, m := range c.quorum.Net {
		if !c.away[m.From] && !c.away[m.To] {
			list = append(list, place)
		}
	}
	return list
}

// event: commands go to leaders, each unlike all others; messages come in order, late, or ahead of others.
func (c *quorumCourse) event(r *rand.Rand, turn int) impl.Event {
	kind, list := c.temper.kind(r), c.underWay()
	if len(list) > c.patience {
		kind = pick(r, impl.EvCarry, impl.EvCarry, impl.EvCarry, impl.EvLose, kind)
	}
	switch kind {
	case impl.EvWake:
		return c.wakes(r)
	case impl.EvCarry, impl.EvLose, impl.EvTwice:
		if len(list) > 0 {
			return ev(kind, list[pick(r, 0, 0, r.Intn(len(list)), len(list)-1)])
		}
		kind = impl.EvBeat
	case impl.EvRestart:
		return ev(kind, r.Intn(len(c.away)))
	}
	at := c.leader(r)
	if at < 0 || kind == impl.EvBeat {
		at = c.leaderThatIsThere(r)
	}
	if at < 0 {
		return c.wakes(r)
	}
	return impl.Event{Kind: kind, At: at, Text: strconv.Itoa(turn)}
}

func runCourse(t *testing.T, r *rand.Rand, voters int, x temper, length int) *quorumCourse {
	t.Helper()
	c := &quorumCourse{temper: x, patience: pick(r, 1, 3, 6, 15, 40), away: make([]bool, voters), quorum: impl.NewQuorum(voters), ballot: newBallot(voters)}
	for turn := range length {
		if r.Intn(30) == 0 {
			c.away = make([]bool, voters)
			for range r.Intn((voters + 1) / 2) {
				c.away[max(0, pick(r, r.Intn(voters), c.leader(r)))] = true
			}
		}
		e := c.event(r, turn)
		q, _ := impl.DoEvent(c.quorum, e)
		if e.Kind == impl.EvTell && impl.LeaderOf(c.quorum) != e.At {
			c.rivals++
		}
		if cutsALog(c.quorum, q) {
			c.unlike++
		}
		c.events = append(c.events, e)
		c.quorum = q
		c.ballot.look(t, q)
	}
	return c
}

// cutsALog: a voter had commands that have gone.
func cutsALog(was impl.Quorum, q impl.Quorum) bool {
	for at, v := range q.Voters {
		had := was.Voters[at].Log
		if len(v.Log) < len(had) || !slices.Equal(v.Log[:len(had)], had) {
			return true
		}
	}
	return false
}

// Promises 11 and 12, along long courses of events; what they come to event by event, they come to at once.
func TestOfATermOneLeadsAndWhatIsSealedStands(t *testing.T) {
	r := rand.New(rand.NewSource(73))
	leaders, sealed, rivals, unlike := 0, 0, 0, 0
	for turn := range 1000 {
		voters := 1 + turn%impl.MaxVoters
		c := runCourse(t, r, voters, pick(r, tempers()...), 400)
		if x := impl.RunQuorum(impl.NewQuorum(voters), c.events); !sameQuorum(x, c.quorum) || !impl.QuorumOk(x) {
			t.Fatalf("all at once: %+v\nnot %+v", x, c.quorum)
		}
		if voters > 1 {
			leaders, sealed, rivals, unlike = leaders+len(c.ballot.leaders), sealed+len(c.ballot.sealed), rivals+c.rivals, unlike+c.unlike
		}
	}
	if leaders < 1000 || sealed < 3000 || rivals < 300 || unlike < 200 {
		t.Error("the courses to try are too quiet:", leaders, sealed, rivals, unlike)
	}
}

// A drama is a course that is told scene by scene; promises 11 and 12 are looked at behind each event.
type drama struct {
	t      *testing.T
	q      impl.Quorum
	ballot *ballot
}

func newDrama(t *testing.T, voters int) *drama {
	return &drama{t, impl.NewQuorum(voters), newBallot(voters)}
}

func (d *drama) do(e impl.Event) {
	d.t.Helper()
	d.q = happens(d.t, "a scene", d.q, e)
	d.ballot.look(d.t, d.q)
}

func (d *drama) tell(at int, texts ...string) {
	d.t.Helper()
	for _, text := range texts {
		d.do(telling(at, text))
	}
}

// place is where the first message of that Kind is, from one to another.
func (d *drama) place(kind int, from int, to int) int {
	d.t.Helper()
	at := slices.IndexFunc(d.q.Net, func(m impl.Message) bool { return m.Kind == kind && m.From == from && m.To == to })
	if at < 0 {
		d.t.Fatalf("no message of Kind %d goes from %d to %d: %+v", kind, from, to, d.q.Net)
	}
	return at
}

func (d *drama) bring(kind int, from int, to int) {
	d.t.Helper()
	d.do(ev(impl.EvCarry, d.place(kind, from, to)))
}

// lose lets all go that is under way, but for so many of the first.
func (d *drama) lose(but int) {
	d.t.Helper()
	for len(d.q.Net) > but {
		d.do(ev(impl.EvLose, but))
	}
}

// ask wakes one until its Term is above that of all others, and brings what these answer; the first messages under way stay so.
func (d *drama) ask(at int, others ...int) {
	d.t.Helper()
	stay, most := len(d.q.Net), 0
	for _, v := range d.q.Voters {
		most = max(most, v.Term)
	}
	d.do(ev(impl.EvRestart, at))
	for d.q.Voters[at].Term <= most {
		d.lose(stay)
		d.do(ev(impl.EvWake, at))
	}
	for _, other := range others {
		d.bring(impl.AskVote, at, other)
		d.bring(impl.GiveVote, other, at)
	}
	d.lose(stay)
}

func (d *drama) elect(at int, others ...int) {
	d.t.Helper()
	d.ask(at, others...)
	if impl.LeaderOf(d.q) != at {
		d.t.Fatalf("%d does not lead: %+v", at, d.q)
	}
}

// spread beats, and brings what is carried to these, with their answers, until they have all.
func (d *drama) spread(at int, others ...int) {
	d.t.Helper()
	stay := len(d.q.Net)
	for _, other := range others {
		for range 2 + len(d.q.Voters[at].Log) {
			d.do(ev(impl.EvBeat, at))
			d.bring(impl.Carry, at, other)
			d.bring(impl.Took, other, at)
			d.lose(stay)
		}
		if !slices.Equal(d.q.Voters[other].Log, d.q.Voters[at].Log) {
			d.t.Fatalf("%d has %+v, its leader %+v", other, d.q.Voters[other].Log, d.q.Voters[at].Log)
		}
	}
}

func (d *drama) mustHave(at int, texts ...string) {
	d.t.Helper()
	for place, text := range texts {
		if log := d.q.Voters[at].Log; len(log) != len(texts) || log[place].Text != text {
			d.t.Errorf("%d has %+v, not %v", at, log, texts)
			return
		}
	}
}

func (d *drama) mustHaveSealed(at int, count int) {
	d.t.Helper()
	if v := d.q.Voters[at]; v.Sealed != count {
		d.t.Errorf("%d has sealed %d, not %d, of %+v", at, v.Sealed, count, v.Log)
	}
}

// A majority that has a command of an elder Term does not seal it: one with a later Term may still lead, and it goes.
func TestACommandOfAnElderTermIsNotSealed(t *testing.T) {
	d := newDrama(t, 5)
	d.elect(0, 1, 2)
	d.tell(0, "old")
	d.spread(0, 1)
	d.elect(4, 2, 3)
	d.tell(4, "new")
	d.elect(0, 1, 2)
	d.spread(0, 1, 2)
	d.mustHaveSealed(0, 0)
	again := &drama{t, d.q, newBallot(5)}

	d.elect(4, 1, 2, 3)
	d.tell(4, "more")
	d.spread(4, 0, 1, 2, 3)
	d.mustHave(0, "new", "more")
	d.mustHaveSealed(4, 2)

	again.tell(0, "own")
	again.spread(0, 1, 2)
	again.mustHaveSealed(0, 2)
	again.ask(4, 1, 2, 3)
	if v := again.q.Voters[4]; v.Role != impl.Candidate || !slices.Equal(v.Votes, []int{3, 4}) {
		t.Errorf("behind a command of the leader's own Term, the other one gets votes: %+v", v)
	}
	again.elect(1, 3, 4)
	again.tell(1, "last")
	again.spread(1, 3, 4)
	again.mustHave(4, "old", "own", "last")
	again.mustHaveSealed(1, 3)
}

// What one had taken in an elder Term may have gone since, so it counts no more.
func TestATookOfAnElderTermCountsNoMore(t *testing.T) {
	d := newDrama(t, 5)
	d.elect(0, 1, 2)
	d.tell(0, "a", "b")
	d.do(ev(impl.EvBeat, 0))
	d.bring(impl.Carry, 0, 1)
	for len(d.q.Net) > 1 {
		d.do(ev(impl.EvLose, 0))
	}
	d.place(impl.Took, 1, 0)
	d.elect(3, 2, 4)
	d.tell(3, "y")
	d.spread(3, 0, 1)
	d.mustHave(0, "y")
	d.mustHave(1, "y")
	d.elect(0, 1, 2)
	d.tell(0, "z")
	d.spread(0, 2)
	d.bring(impl.Took, 1, 0)
	d.mustHaveSealed(0, 0)
	if v := d.q.Voters[0]; v.Match[1] != 0 || v.Match[2] != 2 {
		t.Errorf("known are %v", v.Match)
	}
	d.elect(1, 3, 4)
	d.tell(1, "w")
	d.spread(1, 3, 4)
	d.mustHave(3, "y", "w")
	d.mustHaveSealed(1, 2)
	d.spread(1, 0, 2)
	d.mustHave(0, "y", "w")
}

// A voter tells of no more than the message told it, though its log goes on.
func TestATookTellsOfWhatWasCarried(t *testing.T) {
	d := newDrama(t, 3)
	d.elect(1, 2)
	d.tell(1, "p", "q")
	d.spread(1, 0, 2)
	d.tell(1, "r")
	d.elect(0, 2)
	d.do(ev(impl.EvBeat, 0))
	d.bring(impl.Carry, 0, 1)
	d.mustHave(1, "p", "q", "r")
	d.tell(0, "s")
	d.bring(impl.Took, 1, 0)
	d.mustHaveSealed(0, 2)
	d.lose(0)
	again := &drama{t, d.q, newBallot(3)}
	d.elect(1, 2)
	d.tell(1, "u")
	d.spread(1, 2)
	d.mustHaveSealed(1, 4)
	d.spread(1, 0)
	d.mustHave(0, "p", "q", "r", "u")

	again.spread(0, 1)
	again.mustHave(1, "p", "q", "s")
	again.mustHaveSealed(0, 3)
}

// A Carry that comes late has fewer commands than came since: these stay.
func TestALateCarryCutsNothing(t *testing.T) {
	d := newDrama(t, 3)
	d.elect(0, 1)
	d.tell(0, "a")
	d.do(ev(impl.EvBeat, 0))
	d.do(ev(impl.EvTwice, d.place(impl.Carry, 0, 1)))
	d.tell(0, "b")
	d.spread(0, 1)
	d.mustHaveSealed(0, 2)
	for range 2 {
		d.bring(impl.Carry, 0, 1)
		d.mustHave(1, "a", "b")
		d.bring(impl.Took, 1, 0)
	}
	if v := d.q.Voters[0]; v.Match[1] != 2 || v.Next[1] != 2 {
		t.Errorf("what comes late is known as %v, %v", v.Match, v.Next)
	}
	d.lose(0)
	d.elect(1, 2)
	d.tell(1, "c")
	d.spread(1, 2)
	d.mustHave(2, "a", "b", "c")
	d.mustHaveSealed(1, 3)
}

// A voter that restarts remembers for whom it voted, and a vote that comes late counts no more.
func TestAVoteIsGivenOnce(t *testing.T) {
	d := newDrama(t, 3)
	d.do(ev(impl.EvWake, 0))
	d.do(ev(impl.EvWake, 2))
	d.bring(impl.AskVote, 0, 1)
	d.do(ev(impl.EvRestart, 1))
	d.bring(impl.AskVote, 2, 1)
	d.bring(impl.GiveVote, 1, 2)
	if v := d.q.Voters[2]; v.Role != impl.Candidate {
		t.Errorf("two have the vote of one: %+v", v)
	}
	late := d.q
	d.bring(impl.GiveVote, 1, 0)
	if impl.LeaderOf(d.q) != 0 {
		t.Errorf("the first that asked does not lead: %+v", d.q)
	}
	d = &drama{t, late, newBallot(3)}
	d.do(ev(impl.EvWake, 0))
	d.bring(impl.GiveVote, 1, 0)
	d.do(ev(impl.EvRestart, 2))
	d.do(ev(impl.EvWake, 2))
	if v := d.q.Voters[0]; v.Role != impl.Candidate || len(v.Votes) != 1 {
		t.Errorf("a vote of an elder Term counts: %+v", v)
	}
}

// What a course comes to event by event, all events at once come to.
func runQuorumAsTold(q impl.Quorum, events []impl.Event) impl.Quorum {
	for _, e := range events {
		q, _ = eventAsTold(q, e)
	}
	return q
}

func TestRunQuorum(t *testing.T) {
	r := rand.New(rand.NewSource(74))
	for range 1500 {
		q := randomQuorum(r)
		events := []impl.Event{}
		for range r.Intn(30) {
			events = append(events, pick(r, eventsFor(r, q)...))
		}
		x, want := impl.RunQuorum(q, events), runQuorumAsTold(q, events)
		if !sameQuorum(x, want) || !impl.QuorumOk(x) {
			t.Fatalf("%+v of\n%+v\ncome to\n%+v\nnot\n%+v", events, q, x, want)
		}
	}
	q := cabinet()
	if x := impl.RunQuorum(q, nil); !sameQuorum(x, q) {
		t.Errorf("no events: %+v", x)
	}
	idle := []impl.Event{{}, ev(9, 0), ev(impl.EvWake, 0), ev(impl.EvWake, -1), telling(1, "x"), ev(impl.EvBeat, 2), ev(impl.EvCarry, 2), ev(impl.EvRestart, 3)}
	if x := impl.RunQuorum(q, idle); !sameQuorum(x, q) {
		t.Errorf("events that do nothing: %+v", x)
	}
	mixed := slices.Concat(idle, []impl.Event{telling(0, "x")}, idle[:6], []impl.Event{telling(0, "y")}, idle[:3])
	x := impl.RunQuorum(q, mixed)
	if log := x.Voters[0].Log; len(log) != 5 || log[3].Text != "x" || log[4].Text != "y" || !sameQuorum(x, runQuorumAsTold(q, mixed)) {
		t.Errorf("events among such: %+v", x)
	}
}

func TestRunQuorumUpToMaxEvents(t *testing.T) {
	q := impl.NewQuorum(3)
	for _, e := range []impl.Event{ev(impl.EvWake, 1), {Kind: 9}, {}} {
		x := impl.RunQuorum(q, slices.Repeat([]impl.Event{e}, 400))
		if !impl.QuorumOk(x) || e.Kind == impl.EvWake && (x.Voters[1].Term != 400 || len(x.Net) != 400) {
			t.Errorf("MaxEvents: %+v", x)
		}
		for _, count := range []int{401, 402, 1000} {
			if x := impl.RunQuorum(q, slices.Repeat([]impl.Event{e}, count)); !sameQuorum(x, impl.Quorum{}) {
				t.Errorf("%d events: %+v", count, x)
			}
		}
	}
	for kind := range 9 {
		for _, at := range []int{0, 7, 399} {
			events := slices.Repeat([]impl.Event{ev(impl.EvWake, 0)}, 400)
			events[at] = impl.Event{Kind: kind, At: -1, Text: long(101)}
			if x := impl.RunQuorum(q, events); !sameQuorum(x, impl.Quorum{}) {
				t.Errorf("a Text too long at %d: %+v", at, x)
			}
			events[at].Text = long(100)
			if x := impl.RunQuorum(q, events); x.Voters[0].Term != 399 {
				t.Errorf("a Text of MaxText at %d: %+v", at, x.Voters[0])
			}
		}
	}
}
