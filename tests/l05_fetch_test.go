package tests

import (
	"slices"
	"testing"

	"loop.example/g00035/impl"
)

// pair is a leader alone in Insync with one log, and a follower with another, of which 1 is known.
func pair(lead impl.Log, own impl.Log) impl.Part {
	return impl.Part{
		Replicas: []impl.Replica{{Log: lead, Mark: lead.Next, Up: true}, {Log: own, Mark: own.Start, Up: true}},
		Leader:   0, Epoch: 9, Insync: []int{0}, Known: []int{0, 1}, Least: 1,
	}
}

// marked is a pair with another Mark of each.
func marked(lead int, own int, p impl.Part) impl.Part {
	p.Replicas[0].Mark, p.Replicas[1].Mark = lead, own
	return p
}

func basesOf(l impl.Log) []int {
	list := []int{}
	for _, b := range allBatches(l) {
		list = append(list, b.Base)
	}
	return list
}

// mustFetch: behind a fetch the follower has this Next, this Mark and batches at these Bases, and as much is known of it; the leader is as it was.
func mustFetch(t *testing.T, name string, p impl.Part, known int, next int, mark int, bases ...int) impl.Part {
	t.Helper()
	x := mustDo(t, name, p, do(impl.PartFetch, 1), impl.PartDone, p.Replicas[0].Log.Next)
	own := x.Replicas[1]
	if own.Log.Next != next || own.Mark != mark || x.Known[1] != known || !slices.Equal(basesOf(own.Log), bases) {
		t.Errorf("%s: Next %d, Mark %d, Known %d, batches at %v; not %d, %d, %d, %v", name, own.Log.Next, own.Mark, x.Known[1], basesOf(own.Log), next, mark, known, bases)
	}
	if !sameLog(x.Replicas[0].Log, p.Replicas[0].Log) || x.Known[0] != p.Known[0] || own.Log.Roll != p.Replicas[1].Log.Roll {
		t.Errorf("%s: more than the follower has changed: %+v", name, x)
	}
	return x
}

func TestAFollowerTakes(t *testing.T) {
	lead := epochLog(1, 1, 2, 4)
	mustFetch(t, "the same log", pair(lead, epochLog(1, 1, 2, 4)), 8, 8, 8, 0, 2, 4, 6)
	mustFetch(t, "no batches", pair(lead, impl.NewLog(0, 1)), 8, 8, 8, 0, 2, 4, 6)
	mustFetch(t, "one batch", pair(lead, epochLog(1)), 8, 8, 8, 0, 2, 4, 6)
	mustFetch(t, "all but one", pair(lead, epochLog(1, 1, 2)), 8, 8, 8, 0, 2, 4, 6)
	mustFetch(t, "nothing from nothing", pair(epochLog(), epochLog()), 0, 0, 0)
	mustFetch(t, "Epoch 0", pair(epochLog(0, 0, 3), epochLog(0)), 6, 6, 6, 0, 2, 4)
	mustFetch(t, "Epoch 0 from nothing", pair(epochLog(0, 0, 3), epochLog()), 6, 6, 6, 0, 2, 4)
	mustFetch(t, "behind its Next alone", pair(epochLog(0, 0, 2, 4), impl.NewLog(4, 90)), 8, 8, 8, 4, 6)
	long := impl.NewLog(0, 90)
	long.Segments = []impl.Segment{{Batches: []impl.Batch{inEpoch(0, 1, 4)}}}
	long.Next = 4
	mustFetch(t, "other batches of the Epoch", pair(lead, long), 8, 8, 8, 0, 4, 6)
}

// What is of the same Epoch is taken as the same, without a look at the records.
func TestAFollowerWithOtherRecordsOfTheEpoch(t *testing.T) {
	lead, own := epochLog(1, 1, 3), epochLog(1)
	own.Segments[0].Batches[0].Records[1].Value = "its own"
	x := mustFetch(t, "other records", pair(lead, own), 6, 6, 6, 0, 2, 4)
	list := allBatches(x.Replicas[1].Log)
	if list[0].Records[1].Value != "its own" || !sameBatch(list[1], inEpoch(2, 1, 2)) || !sameBatch(list[2], inEpoch(4, 3, 2)) {
		t.Errorf("the follower has %+v", list)
	}
}

// A batch of the leader's that holds a follower's Next is not taken: its Base is below.
func TestAFollowerWithinABatch(t *testing.T) {
	lead := epochLog(1, 1, 1)
	own, _ := impl.CutTo(lead, 3)
	mustFetch(t, "within a batch", pair(lead, own), 6, 6, 6, 0, 2, 4)
	own, _ = impl.CutTo(lead, 5)
	x := mustFetch(t, "within the last one", pair(lead, own), 6, 6, 6, 0, 2, 4)
	if list := allBatches(x.Replicas[1].Log); len(list[2].Records) != 1 {
		t.Errorf("the last batch is %+v", list[2])
	}
}

func TestAFollowerIsCut(t *testing.T) {
	x := mustFetch(t, "ahead of the leader", pair(epochLog(1, 1), epochLog(1, 1, 1)), 1, 4, 0, 0, 2)
	mustFetch(t, "and once more", x, 4, 4, 4, 0, 2)
	x = mustFetch(t, "ahead by a part of a batch", pair(from(0, mustCut(t, epochLog(1, 1), 3)), epochLog(1, 1)), 1, 3, 0, 0, 2)
	mustFetch(t, "and once more", x, 3, 3, 3, 0, 2)
	x = mustFetch(t, "an Epoch that the leader has not", pair(epochLog(1, 1, 3, 3), epochLog(1, 1, 2)), 1, 4, 0, 0, 2)
	mustFetch(t, "and once more", x, 8, 8, 8, 0, 2, 4, 6)
	x = mustFetch(t, "such a one above all of the leader's", pair(epochLog(1, 1), epochLog(1, 1, 2)), 1, 4, 0, 0, 2)
	mustFetch(t, "and once more", x, 4, 4, 4, 0, 2)
	x = mustFetch(t, "such a one, its own end first", pair(epochLog(1, 1, 3), epochLog(1, 2, 2)), 1, 2, 0, 0)
	mustFetch(t, "and once more", x, 6, 6, 6, 0, 2, 4)
	x = mustFetch(t, "such a one, the leader's end first", pair(epochLog(1, 3), epochLog(1, 1, 1, 2)), 1, 2, 0, 0)
	mustFetch(t, "and once more", x, 4, 4, 4, 0, 2)
	x = mustFetch(t, "the same last Epoch, the leader's ends first", pair(epochLog(1, 2, 5), epochLog(1, 1, 2, 2)), 1, 4, 0, 0, 2)
	mustFetch(t, "an older Epoch that is longer", x, 1, 2, 0, 0)
	x = mustFetch(t, "Epochs that are all others", pair(epochLog(2, 4), epochLog(1, 3)), 1, 2, 0, 0)
	x = mustFetch(t, "and the first", x, 0, 0, 0)
	mustFetch(t, "and once more", x, 4, 4, 4, 0, 2)
	x = mustFetch(t, "below all of the leader's", pair(epochLog(7), epochLog(1, 3)), 0, 0, 0)
	mustFetch(t, "and once more", x, 2, 2, 2, 0)
	x = mustFetch(t, "the leader has nothing", pair(epochLog(), epochLog(1, 3)), 0, 0, 0)
	mustFetch(t, "and once more", x, 0, 0, 0)
	mustFetch(t, "the leader has nothing, Epoch 0", pair(epochLog(), epochLog(0)), 0, 0, 0)
	ahead := impl.NewLog(0, 50)
	ahead.Next = 3
	x = mustFetch(t, "no batches, but a Next", pair(epochLog(1, 1), ahead), 0, 0, 0)
	mustFetch(t, "and once more", x, 4, 4, 4, 0, 2)
}

func mustCut(t *testing.T, l impl.Log, to int) impl.Log {
	t.Helper()
	x, ok := impl.CutTo(l, to)
	if !ok {
		t.Fatalf("not cut to %d: %+v", to, l)
	}
	return x
}

// A fetch goes back by one Epoch of the follower's at least, so it needs several where many are unlike.
func TestAFollowerIsCutEpochByEpoch(t *testing.T) {
	p := pair(epochLog(1, 3, 5, 7), epochLog(1, 2, 4, 6))
	p = mustFetch(t, "6", p, 1, 6, 0, 0, 2, 4)
	p = mustFetch(t, "4", p, 1, 4, 0, 0, 2)
	p = mustFetch(t, "2", p, 1, 2, 0, 0)
	p = mustFetch(t, "the same", p, 8, 8, 8, 0, 2, 4, 6)
	if !slices.EqualFunc(allBatches(p.Replicas[1].Log), allBatches(p.Replicas[0].Log), sameBatch) {
		t.Errorf("the follower has %+v", p.Replicas[1].Log)
	}
}

func TestAFollowerIsNotCutBelowItsStart(t *testing.T) {
	p := pair(epochLog(1, 3), from(3, epochLog(1, 1, 2)))
	p = mustFetch(t, "the leader's end below Start", p, 1, 3, 3, 0, 2)
	mustFetch(t, "and no further", p, 1, 3, 3, 0, 2)
	p = mustFetch(t, "its own end below Start", pair(epochLog(1, 1, 1, 3), from(3, epochLog(1, 2, 2))), 1, 3, 3, 0, 2)
	mustFetch(t, "and no further", p, 1, 3, 3, 0, 2)
	mustFetch(t, "no Epoch so low", pair(epochLog(5), from(2, epochLog(1, 2))), 1, 2, 2, 0)
	mustFetch(t, "no Epoch so low, and nothing to cut", pair(epochLog(1, 1, 2), impl.NewLog(4, 90)), 1, 4, 4)
	mustFetch(t, "at Next already", pair(epochLog(5), from(4, epochLog(1, 2))), 1, 4, 4, 0, 2)
}

func TestAFollowersMarkAndKnown(t *testing.T) {
	lead, own := epochLog(1, 1, 1, 4), epochLog(1, 1)
	for _, x := range []struct {
		name  string
		lead  int
		own   int
		after int
	}{
		{"the leader's", 6, 1, 6},
		{"the leader's, 0", 0, 0, 0},
		{"the leader's, all", 8, 4, 8},
		{"not less than it was", 3, 4, 4},
		{"as it was", 4, 4, 4},
		{"one more", 5, 4, 5},
	} {
		p := marked(x.lead, x.own, pair(lead, own))
		p.Insync, p.Known[1] = []int{0, 1}, 0
		got := mustDo(t, x.name, p, do(impl.PartFetch, 1), impl.PartDone, 8)
		if got.Replicas[1].Mark != x.after || got.Known[1] != 8 {
			t.Errorf("%s: Mark %d, Known %d, not %d", x.name, got.Replicas[1].Mark, got.Known[1], x.after)
		}
	}
	p := pair(epochLog(1, 3, 3), epochLog(1, 2, 2))
	for mark, want := range []int{0, 1, 2, 2, 2, 2, 2} {
		for known, wantKnown := range []int{0, 1, 2, 2, 2, 2, 2, 2} {
			x := marked(6, mark, plainPart(p))
			x.Known[1] = known
			mustFetch(t, "cut to 2", x, wantKnown, 2, want, 0)
		}
	}
	p = pair(epochLog(1, 1), epochLog(1))
	p.Known[1] = impl.MaxOffset
	mustFetch(t, "Known falls to its Next", p, 4, 4, 4, 0, 2)
}

// A follower that is cut takes nothing with the same fetch, nor learns of the leader's Mark.
func TestACutIsAll(t *testing.T) {
	p := pair(epochLog(1, 3, 3), epochLog(1, 2))
	p.Insync, p.Known[1] = []int{0, 1}, 0
	p = marked(1, 1, p)
	x := mustDo(t, "cut", p, do(impl.PartFetch, 1), impl.PartDone, 1)
	if x.Replicas[1].Mark != 1 || x.Known[1] != 0 || x.Replicas[1].Log.Next != 2 {
		t.Errorf("behind the cut: %+v", x)
	}
	x = mustDo(t, "taken", x, do(impl.PartFetch, 1), impl.PartDone, 6)
	if x.Replicas[1].Mark != 1 || x.Known[1] != 6 || x.Replicas[1].Log.Next != 6 {
		t.Errorf("behind the taking: %+v", x)
	}
	x = mustDo(t, "once more", x, do(impl.PartFetch, 1), impl.PartDone, 6)
	if x.Replicas[1].Mark != 6 {
		t.Errorf("a fetch later the follower knows of %d", x.Replicas[1].Mark)
	}
}

func TestAFollowerBeginsAnew(t *testing.T) {
	lead := from(5, epochLog(1, 1, 1, 2))
	p := pair(lead, epochLog(1, 1))
	x := mustFetch(t, "Start above its Next, within a batch", p, 8, 8, 8, 6)
	if log := x.Replicas[1].Log; log.Start != 5 || log.Segments[0].Base != 6 || len(log.Segments) != 1 {
		t.Errorf("begun anew: %+v", log)
	}
	x = mustFetch(t, "Start above its Next, at a batch", pair(from(4, epochLog(1, 1, 1, 2)), epochLog(1)), 8, 8, 8, 4, 6)
	if log := x.Replicas[1].Log; log.Start != 4 || log.Segments[0].Base != 4 {
		t.Errorf("begun anew: %+v", log)
	}
	x = mustFetch(t, "Start at its Next", pair(from(4, epochLog(1, 1, 1, 2)), epochLog(1, 1)), 8, 8, 8, 0, 2, 4, 6)
	if log := x.Replicas[1].Log; log.Start != 0 {
		t.Errorf("not begun anew: %+v", log)
	}
	for mark := 5; mark <= 8; mark++ {
		x = mustDo(t, "Mark", marked(mark, 3, alsoInsync(p, 2)), do(impl.PartFetch, 1), impl.PartDone, mark)
		if x.Replicas[1].Mark != mark {
			t.Errorf("Mark %d of a follower that began anew, not %d", x.Replicas[1].Mark, mark)
		}
	}
	none := impl.NewLog(7, 50)
	x = mustFetch(t, "nothing to take", pair(none, impl.NewLog(3, 60)), 7, 7, 7)
	if log := x.Replicas[1].Log; log.Start != 7 || log.Roll != 60 {
		t.Errorf("begun anew: %+v", log)
	}
	none.Next = 9
	mustFetch(t, "offsets that are missing", pair(none, impl.NewLog(3, 60)), 9, 9, 9)
	later := from(4, epochLog(1, 1, 2, 2))
	later.Segments[0].Batches = later.Segments[0].Batches[2:]
	x = mustFetch(t, "an Epoch that the leader has no more: cut ahead", pair(later, epochLog(1)), 0, 0, 0)
	x = mustFetch(t, "and begun anew", x, 8, 8, 8, 4, 6)
	if log := x.Replicas[1].Log; log.Start != 4 {
		t.Errorf("begun anew: %+v", log)
	}
}

// alsoInsync is a pair with one replica more, that the leader heard nothing of and waits for.
func alsoInsync(p impl.Part, at int) impl.Part {
	p = plainPart(p)
	p.Replicas = append(p.Replicas, bareReplica())
	p.Known = append(p.Known, 0)
	p.Insync = append(p.Insync, at)
	return p
}

func TestAFollowerTakesOverGaps(t *testing.T) {
	lead := from(0, gappy())
	x := mustFetch(t, "from nothing", pair(lead, impl.NewLog(0, 60)), 30, 30, 30, 2, 6, 10, 14, 22)
	if !slices.EqualFunc(allBatches(x.Replicas[1].Log), allBatches(lead), sameBatch) {
		t.Errorf("the follower has %+v", x.Replicas[1].Log)
	}
	mustFetch(t, "up to a gap", pair(lead, mustCut(t, lead, 8)), 30, 30, 30, 2, 6, 10, 14, 22)
	mustFetch(t, "up to the end of a gap", pair(lead, mustCut(t, lead, 10)), 30, 30, 30, 2, 6, 10, 14, 22)
	mustFetch(t, "within a gap", pair(lead, mustCut(t, lead, 12)), 30, 30, 30, 2, 6, 10, 14, 22)
	mustFetch(t, "all batches, not all offsets", pair(lead, mustCut(t, lead, 24)), 30, 30, 30, 2, 6, 10, 14, 22)
	own := withEmpty(mustCut(t, lead, 8), 8)
	x = mustFetch(t, "a last segment without batches", pair(lead, own), 30, 30, 30, 2, 6, 10, 14, 22)
	if log := x.Replicas[1].Log; log.Segments[1].Base != 8 || !slices.Equal(basesOf(impl.Log{Segments: log.Segments[1:2]}), []int{10, 14}) {
		t.Errorf("the follower has %+v", log)
	}
	// Other gaps: the follower's first batch lies where the leader has none.
	own = impl.NewLog(0, 60)
	own.Segments, own.Next = []impl.Segment{{Batches: []impl.Batch{bare(0, 1), bare(8, 1)}}}, 9
	mustFetch(t, "other batches ahead", pair(lead, own), 30, 30, 30, 0, 8, 10, 14, 22)
}

// At the first batch that Append refuses a fetch ends; what was taken ahead of it stays.
func TestAFollowerThatIsRefused(t *testing.T) {
	lead := impl.NewLog(0, impl.MaxRoll)
	lead.Segments = []impl.Segment{{}}
	for lead.Next < 360 {
		lead.Segments[0].Batches = append(lead.Segments[0].Batches, inEpoch(lead.Next, 0, 40))
		lead.Next += 40
	}
	lead.Segments[0].Batches = append(lead.Segments[0].Batches, inEpoch(360, 0, 38), bare(398, 1), bare(402, 1), bare(405, 1), bare(406, 1))
	lead.Next = 420
	full := append(basesOf(ladder(1, 398)), 398, 402)
	x := mustFetch(t, "MaxLog", pair(lead, ladder(1, 398)), 403, 403, 403, full...)
	mustFetch(t, "MaxLog, once more", x, 403, 403, 403, full...)

	lead = epochLog(1, 1, 1, 1)
	lead.Next = 12
	own := impl.NewLog(0, 1)
	for i := range 59 {
		own.Segments = append(own.Segments, impl.Segment{Base: i, Batches: []impl.Batch{inEpoch(i, 1, 1)}})
	}
	own.Next = 59
	for i := range lead.Segments[0].Batches {
		lead.Segments[0].Batches[i].Base += 59 + i
	}
	lead.Next = 100
	x = mustFetch(t, "MaxSegments", pair(lead, own), 61, 61, 61, append(basesOf(own), 59)...)
	mustFetch(t, "MaxSegments, once more", x, 61, 61, 61, append(basesOf(own), 59)...)

	p := pair(epochLog(1, 1, 5), epochLog(5))
	p.Known[1] = 6
	p = mustFetch(t, "a lesser Epoch", p, 2, 2, 2, 0)
	p = mustFetch(t, "a lesser Epoch, with a Mark below", marked(1, 0, plainPart(p)), 2, 2, 1, 0)
	if !slices.Equal(p.Insync, []int{0}) {
		t.Errorf("Insync is %v", p.Insync)
	}
	late := epochLog(1, 1, 5)
	late.Segments[0].Batches[1].Base, late.Segments[0].Batches[2].Base, late.Next = 4, 8, 10
	mustFetch(t, "a lesser Epoch behind a gap", pair(late, epochLog(5)), 2, 2, 2, 0)
}

func TestPartFetchRefuses(t *testing.T) {
	p := course(t, impl.NewPart(3, 1, 500), writing(2), do(impl.PartFetch, 1), do(impl.PartDown, 2))
	mustDo(t, "the leader", p, do(impl.PartFetch, 0), impl.PartNone, 2)
	mustDo(t, "one that is not Up", p, do(impl.PartFetch, 2), impl.PartNone, 2)
	mustDo(t, "one that is not in Insync", course(t, p, do(impl.PartUp, 2)), do(impl.PartFetch, 2), impl.PartDone, 2)
	p = course(t, p, do(impl.PartDown, 0))
	for at := range 3 {
		mustDo(t, "no leader", p, do(impl.PartFetch, at), impl.PartNone, -1)
	}
}

// The leader's Mark is that of the followers in Insync that are the furthest behind, and what a follower learns is the Mark that was ahead of its fetch.
func TestTheLeadersMarkBehindFetches(t *testing.T) {
	p := course(t, impl.NewPart(4, 1, 500), do(impl.PartDrop, 3), writing(2))
	mustDo(t, "one that is not in Insync", p, do(impl.PartFetch, 3), impl.PartDone, 0)
	p = mustDo(t, "one of two", p, do(impl.PartFetch, 1), impl.PartDone, 0)
	p = mustDo(t, "both", p, do(impl.PartFetch, 2), impl.PartDone, 2)
	if p.Replicas[1].Mark != 0 || p.Replicas[2].Mark != 0 {
		t.Errorf("followers know of %d and %d", p.Replicas[1].Mark, p.Replicas[2].Mark)
	}
	p = mustDo(t, "more", p, writing(3), impl.PartDone, 2)
	p = mustDo(t, "the one", p, do(impl.PartFetch, 2), impl.PartDone, 2)
	p = mustDo(t, "more", p, writing(1), impl.PartDone, 2)
	p = mustDo(t, "the other", p, do(impl.PartFetch, 1), impl.PartDone, 5)
	if p.Replicas[1].Mark != 2 || p.Replicas[2].Mark != 2 || !slices.Equal(p.Known, []int{0, 6, 5, 0}) {
		t.Errorf("followers know of %d and %d, Known is %v", p.Replicas[1].Mark, p.Replicas[2].Mark, p.Known)
	}
	p = mustDo(t, "one that joins may be behind the others", course(t, p, do(impl.PartFetch, 3)), do(impl.PartJoin, 3), impl.PartDone, 5)
	p = mustDo(t, "the last", p, do(impl.PartFetch, 2), impl.PartDone, 6)
	mustDo(t, "nothing new", p, do(impl.PartFetch, 2), impl.PartDone, 6)
}
