package tests

import (
	"math/rand"
	"testing"

	"loop.example/g00035/impl"
)

// journal is a log with these batches one behind the other, from the offset 0 on.
func journal(list ...impl.Batch) impl.Log {
	l := impl.NewLog(0, impl.MaxRoll)
	for _, b := range list {
		x, code := impl.Append(l, b)
		if code != impl.LogOkay {
			panic("the batches to try are not right")
		}
		l = x
	}
	return l
}

func markOf(producer int, turn int) impl.Batch {
	b := marker("abort")
	b.Epoch, b.Producer, b.Turn = 0, producer, turn
	return b
}

// learnAsTold tells also which batches were taken.
func learnAsTold(l impl.Log) ([]impl.Seen, []impl.Batch) {
	list, taken := []impl.Seen{}, []impl.Batch{}
	if !logOkAsTold(l) {
		return nil, nil
	}
	for _, b := range allBatches(l) {
		x, code, offset := takeAsTold(list, b)
		if code == impl.TakeOk {
			list = x
		}
		if code == impl.TakeOk && offset >= 0 {
			taken = append(taken, b)
		}
		for i, s := range list {
			if b.Flags&4 != 0 && s.Producer == b.Producer && b.Turn > s.Turn {
				list[i] = impl.Seen{Producer: s.Producer, Turn: b.Turn}
			}
		}
	}
	return list, taken
}

func mustLearn(t *testing.T, name string, l impl.Log, want ...impl.Seen) {
	t.Helper()
	if !impl.LogOk(l) {
		t.Errorf("%s: the log to try is not right", name)
	}
	if list := impl.Learn(l); !sameTable(list, want) || !impl.TableOk(list) {
		t.Errorf("%s: %+v, not %+v", name, list, want)
	}
}

func seenAs(producer int, turn int, next int, recent ...impl.Recent) impl.Seen {
	return impl.Seen{Producer: producer, Turn: turn, Next: next, Recent: recent}
}

func TestLearnOfLogsWithoutProducers(t *testing.T) {
	mustLearn(t, "no segments", impl.NewLog(7, 9))
	mustLearn(t, "no batches", withEmpty(impl.NewLog(7, 9), 7))
	mustLearn(t, "no producers", gappy())
	mustLearn(t, "no producers, the last segment without batches", withEmpty(gappy(), 26))
	mustLearn(t, "marks of producers that were not seen", journal(markOf(3, 0), markOf(3, 5), markOf(0, 1000)))
}

func TestLearnOfSeveralProducers(t *testing.T) {
	l := journal(sentBy(7, 0, 0, 2), bare(0, 1, 2, 3), sentBy(3, 2, 0, 1), sentBy(7, 0, 2, 3), sentBy(9, 0, 0, 1), sentBy(3, 2, 1, 4), sentBy(3, 5, 0, 2), sentBy(7, 0, 5, 1))
	want := []impl.Seen{
		seenAs(3, 5, 2, impl.Recent{Seq: 0, Many: 2, Offset: 14}),
		seenAs(7, 0, 6, impl.Recent{Seq: 0, Many: 2, Offset: 0}, impl.Recent{Seq: 2, Many: 3, Offset: 6}, impl.Recent{Seq: 5, Many: 1, Offset: 16}),
		seenAs(9, 0, 1, impl.Recent{Seq: 0, Many: 1, Offset: 9}),
	}
	mustLearn(t, "one behind the other", l, want...)
	mustLearn(t, "and a segment without batches", withEmpty(l, l.Next), want...)
	rolled := l
	rolled.Segments = nil
	for _, b := range allBatches(l) {
		rolled.Segments = append(rolled.Segments, impl.Segment{Base: b.Base, Batches: []impl.Batch{b}})
	}
	mustLearn(t, "in many segments", rolled, want...)
	l.Start = l.Next
	mustLearn(t, "below Start too", l, want...)
}

// What Take refuses is passed over: what comes behind it is held against what was there ahead of it.
func TestLearnPassesOver(t *testing.T) {
	first := impl.Recent{Seq: 0, Many: 2, Offset: 0}
	mustLearn(t, "a gap", journal(sentBy(7, 1, 0, 2), sentBy(7, 1, 3, 1)), seenAs(7, 1, 2, first))
	mustLearn(t, "a gap, and then the next", journal(sentBy(7, 1, 0, 2), sentBy(7, 1, 3, 1), sentBy(7, 1, 2, 1)), seenAs(7, 1, 3, first, impl.Recent{Seq: 2, Many: 1, Offset: 3}))
	mustLearn(t, "one that came twice", journal(sentBy(7, 1, 0, 2), sentBy(7, 1, 0, 2), sentBy(7, 1, 2, 3)), seenAs(7, 1, 5, first, impl.Recent{Seq: 2, Many: 3, Offset: 4}))
	mustLearn(t, "a lesser Turn", journal(sentBy(7, 1, 0, 2), sentBy(7, 0, 0, 5), sentBy(7, 0, 2, 1)), seenAs(7, 1, 2, first))
	mustLearn(t, "a greater Turn with another Seq", journal(sentBy(7, 1, 0, 2), sentBy(7, 2, 2, 5), sentBy(7, 1, 2, 1)), seenAs(7, 1, 3, first, impl.Recent{Seq: 2, Many: 1, Offset: 7}))
	mustLearn(t, "a producer that begins elsewhere", journal(sentBy(7, 1, 4, 2), sentBy(7, 1, 6, 2)))
	mustLearn(t, "and then at 0", journal(sentBy(7, 1, 4, 2), sentBy(7, 0, 0, 3)), seenAs(7, 0, 3, impl.Recent{Seq: 0, Many: 3, Offset: 2}))
}

func TestLearnOfMarks(t *testing.T) {
	ahead := []impl.Batch{sentBy(7, 2, 0, 2), sentBy(8, 0, 0, 1), sentBy(7, 2, 2, 1)}
	other := seenAs(8, 0, 1, impl.Recent{Many: 1, Offset: 2})
	as := seenAs(7, 2, 3, impl.Recent{Seq: 0, Many: 2, Offset: 0}, impl.Recent{Seq: 2, Many: 1, Offset: 3})
	behind := func(list ...impl.Batch) impl.Log { return journal(append(ahead[:3:3], list...)...) }
	mustLearn(t, "no mark", behind(), as, other)
	mustLearn(t, "of the same Turn", behind(markOf(7, 2)), as, other)
	mustLearn(t, "of lesser Turns", behind(markOf(7, 1), markOf(7, 0)), as, other)
	mustLearn(t, "of others", behind(markOf(6, 9), markOf(9, 9)), as, other)
	mustLearn(t, "of a greater Turn", behind(markOf(7, 3)), seenAs(7, 3, 0), other)
	mustLearn(t, "of greater Turns", behind(markOf(7, 3), markOf(7, impl.MaxTurn), markOf(7, 4)), seenAs(7, impl.MaxTurn, 0), other)
	commit := markOf(7, 3)
	commit.Flags, commit.Records[0].Key = 7, "commit"
	mustLearn(t, "a squeezed commit", behind(commit), seenAs(7, 3, 0), other)
	mustLearn(t, "and what was is fenced", behind(markOf(7, 3), sentBy(7, 2, 3, 1), sentBy(7, 2, 2, 1)), seenAs(7, 3, 0), other)
	mustLearn(t, "and goes on at 0", behind(markOf(7, 3), sentBy(7, 3, 3, 1), sentBy(7, 3, 0, 4)), seenAs(7, 3, 4, impl.Recent{Seq: 0, Many: 4, Offset: 6}), other)
	mustLearn(t, "then one of that Turn", behind(markOf(7, 3), sentBy(7, 3, 0, 4), markOf(7, 3)), seenAs(7, 3, 4, impl.Recent{Seq: 0, Many: 4, Offset: 5}), other)
	mustLearn(t, "ahead of its producer", journal(markOf(7, 3), sentBy(7, 2, 0, 1)), seenAs(7, 2, 1, impl.Recent{Seq: 0, Many: 1, Offset: 1}))
	open := sentBy(7, 3, 0, 1)
	open.Flags = impl.FlagOpen
	mustLearn(t, "open without a mark", behind(open), seenAs(7, 3, 1, impl.Recent{Seq: 0, Many: 1, Offset: 4}), other)
}

func TestLearnKeepsMaxRecent(t *testing.T) {
	batches, want := []impl.Batch{}, []impl.Recent{}
	for i := range 9 {
		batches = append(batches, sentBy(3, 0, 2*i, 2))
		want = append(want, impl.Recent{Seq: 2 * i, Many: 2, Offset: 2 * i})
		mustLearn(t, "of one producer", journal(batches...), seenAs(3, 0, 2*i+2, want[max(0, i-4):]...))
	}
}

// The producers beyond MaxSeen are passed over, the first ones go on.
func TestLearnOfMoreThanMaxSeen(t *testing.T) {
	batches, want := []impl.Batch{}, make([]impl.Seen, 0)
	for i := range 103 {
		batches = append(batches, sentBy(500-i, 1, 0, 1))
	}
	for i := range 100 {
		want = append(want, seenAs(401+i, 1, 1, impl.Recent{Many: 1, Offset: 99 - i}))
	}
	mustLearn(t, "MaxSeen", journal(batches[:100]...), want...)
	mustLearn(t, "one more", journal(batches[:101]...), want...)
	batches = append(batches, sentBy(500, 2, 0, 3), markOf(499, 4), markOf(399, 4), sentBy(401, 1, 1, 1), sentBy(1, 0, 0, 1))
	want[99] = seenAs(500, 2, 3, impl.Recent{Many: 3, Offset: 103})
	want[98] = seenAs(499, 4, 0)
	want[0] = seenAs(401, 1, 2, impl.Recent{Many: 1, Offset: 99}, impl.Recent{Seq: 1, Many: 1, Offset: 108})
	mustLearn(t, "and those that are there go on", journal(batches...), want...)
}

func TestLearnOfALogThatIsNotRight(t *testing.T) {
	for name, do := range badLogs() {
		l := gappy()
		l.Segments[0].Batches[0].Producer = 4
		if x := impl.Learn(l); len(x) != 1 {
			t.Fatalf("the log to try says %+v", x)
		}
		do(&l)
		if x := impl.Learn(l); len(x) != 0 {
			t.Errorf("%s: %+v", name, x)
		}
	}
}

// producersLog is always right: batches and marks of few producers and Turns among each other, most of them in turn.
func producersLog(r *rand.Rand) impl.Log {
	l := impl.NewLog(r.Intn(20), pick(r, 60, 200, impl.MaxRoll))
	next := map[[2]int]int{}
	turns := map[int]int{}
	epoch := 0
	for range r.Intn(25) {
		producer := r.Intn(4)
		if r.Intn(8) == 0 {
			turns[producer]++
		}
		turn := max(0, turns[producer]-pick(r, 0, 0, 0, 0, 0, 1))
		key := [2]int{producer, turn}
		b := sentBy(producer, turn, next[key], pick(r, 1, 1, 2, 3))
		switch r.Intn(16) {
		case 0:
			b.Seq += pick(r, 1, 5)
		case 1:
			b.Seq = 0
		case 2:
			b = markOf(producer, turn+pick(r, 0, 0, 1))
			turns[producer] = max(turns[producer], b.Turn)
		case 3:
			b = bare(0, 1, 2)
		default:
			next[key] = b.Seq + len(b.Records)
		}
		epoch += r.Intn(9) / 8
		b.Epoch = epoch
		b.Flags |= pick(r, 0, 0, impl.FlagSqueezed)
		l, _ = impl.Append(l, b)
		if r.Intn(10) == 0 {
			l.Next += r.Intn(4)
		}
	}
	l.Start += r.Intn(l.Next - l.Start + 1)
	return l
}

func TestLearnIsAsTold(t *testing.T) {
	r := rand.New(rand.NewSource(83))
	learned, passed := 0, 0
	for range 3000 {
		l := producersLog(r)
		if r.Intn(12) == 0 {
			spoilLog(r, &l)
		}
		want, taken := learnAsTold(l)
		if list := impl.Learn(l); !sameTable(list, want) || !impl.TableOk(list) {
			t.Fatalf("%+v, not %+v: %+v", list, want, l)
		}
		learned += len(taken)
		passed += len(allBatches(l)) - len(taken)
	}
	if learned < 5000 || passed < 5000 {
		t.Error("the logs to try are too much alike:", learned, passed)
	}
}

// Promise 14: a table learned from a log knows the last batch of each producer and Turn that it has seen, and whoever was replaced.
func TestWhatIsLearnedKnowsWhatCameLast(t *testing.T) {
	r := rand.New(rand.NewSource(84))
	twice, fenced := 0, 0
	for range 3000 {
		l := producersLog(r)
		list := impl.Learn(l)
		_, taken := learnAsTold(l)
		last := map[int]impl.Batch{}
		for _, b := range taken {
			last[b.Producer] = b
		}
		for _, s := range list {
			b, turn := last[s.Producer], s.Turn
			for lesser := range turn {
				b.Turn = lesser
				mustAnswer(t, "a lesser Turn", list, b, impl.TakeFenced, -1)
				fenced++
			}
			b = last[s.Producer]
			if b.Turn < turn {
				continue // a mark has ended that Turn
			}
			mustAnswer(t, "what came last", list, b, impl.TakeTwice, b.Base)
			twice++
			b.Seq, b.Base = s.Next, l.Next
			if _, code, offset := impl.Take(list, b); code != impl.TakeOk || offset != l.Next {
				t.Fatalf("what comes next: %d %d", code, offset)
			}
		}
	}
	if twice < 2000 || fenced < 2000 {
		t.Error("the logs to try are too much alike:", twice, fenced)
	}
}
