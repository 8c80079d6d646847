package tests

import (
	"math/rand"
	"slices"
	"testing"

	"loop.example/g00035/impl"
)

func TestLimitsOfTransactions(t *testing.T) {
	if !slices.Equal([]int{impl.MaxParts, impl.MaxIds, impl.MaxTxnOps}, []int{12, 20, 200}) {
		t.Error("a limit is another than the document's")
	}
	kinds := []int{impl.TxnInit, impl.TxnWrite, impl.TxnCommit, impl.TxnAbort}
	codes := []int{impl.TxnDone, impl.TxnBad, impl.TxnNone, impl.TxnFenced, impl.TxnFull}
	if !slices.Equal(kinds, []int{1, 2, 3, 4}) || !slices.Equal(codes, []int{0, 1, 2, 3, 4}) {
		t.Error("a kind or a code is another than the document's:", kinds, codes)
	}
}

// part is a batch of a producer's transaction.
func part(producer int, count int) impl.Batch {
	b := sentBy(producer, 0, 0, count)
	b.Flags = impl.FlagOpen
	return b
}

func commitOf(producer int, turn int) impl.Batch {
	b := markOf(producer, turn)
	b.Records[0].Key = "commit"
	return b
}

func squeezed(b impl.Batch) impl.Batch {
	b.Flags += impl.FlagSqueezed
	return b
}

// A deal is a transaction in a log: open still when last is -1, else ended there by a marker with that key.
type deal struct {
	producer int
	first    int
	last     int
	key      string
}

// dealsAsTold tells them in the order in which they began. Of each producer's open batches and markers one begins at each that has none, or a marker, ahead of it.
func dealsAsTold(l impl.Log) []deal {
	own := map[int][]impl.Batch{}
	for _, b := range allBatches(l) {
		if b.Flags&2 != 0 {
			own[b.Producer] = append(own[b.Producer], b)
		}
	}
	list := []deal{}
	for producer, batches := range own {
		for i, b := range batches {
			if b.Flags&4 != 0 || i > 0 && batches[i-1].Flags&4 == 0 {
				continue
			}
			x := deal{producer, b.Base, -1, ""}
			end := slices.IndexFunc(batches[i:], func(m impl.Batch) bool { return m.Flags&4 != 0 })
			if end >= 0 {
				x.last, x.key = batches[i+end].Base, batches[i+end].Records[0].Key
			}
			list = append(list, x)
		}
	}
	slices.SortFunc(list, func(x deal, y deal) int { return x.first - y.first })
	return list
}

func stableAsTold(l impl.Log) int {
	if !logOkAsTold(l) {
		return -1
	}
	for _, x := range dealsAsTold(l) {
		if x.last < 0 {
			return x.first
		}
	}
	return l.Next
}

func abortedAsTold(l impl.Log) []impl.Gone {
	list := []impl.Gone{}
	if !logOkAsTold(l) {
		return list
	}
	for _, x := range dealsAsTold(l) {
		if x.key == "abort" {
			list = append(list, impl.Gone{Producer: x.producer, First: x.first, Last: x.last})
		}
	}
	slices.SortFunc(list, func(x impl.Gone, y impl.Gone) int { return x.Last - y.Last })
	return list
}

func mustSettle(t *testing.T, name string, l impl.Log, stable int, gone ...impl.Gone) {
	t.Helper()
	if !impl.LogOk(l) {
		t.Errorf("%s: the log to try is not right", name)
	}
	if got := impl.Stable(l); got != stable {
		t.Errorf("%s: Stable is %d, not %d", name, got, stable)
	}
	if got := impl.Aborted(l); !slices.Equal(got, gone) {
		t.Errorf("%s: Aborted is %v, not %v", name, got, gone)
	}
}

func TestSettledLogsWithoutTransactions(t *testing.T) {
	mustSettle(t, "the least log", impl.NewLog(0, 1), 0)
	mustSettle(t, "no segments", impl.NewLog(7, 9), 7)
	mustSettle(t, "no segments, Next above Start", impl.Log{Start: 3, Next: 12, Roll: 1}, 12)
	mustSettle(t, "no batches", withEmpty(impl.NewLog(7, 9), 7), 7)
	mustSettle(t, "the last offset", impl.NewLog(impl.MaxOffset, 1), impl.MaxOffset)
	mustSettle(t, "no producers", gappy(), 30)
	mustSettle(t, "no producers, the last segment without batches", withEmpty(gappy(), 26), 30)
	mustSettle(t, "producers without FlagOpen", journal(sentBy(3, 0, 0, 2), squeezed(sentBy(4, 0, 0, 3)), sentBy(3, 0, 2, 1)), 6)
	mustSettle(t, "markers that end nothing", journal(markOf(3, 0), commitOf(3, 1), markOf(3, 1), squeezed(markOf(4, 0))), 4)
	mustSettle(t, "such behind producers without FlagOpen", journal(sentBy(3, 0, 0, 2), markOf(3, 0), sentBy(3, 0, 2, 2)), 5)
}

func TestWhereATransactionBegins(t *testing.T) {
	mustSettle(t, "with the first batch", journal(part(3, 2)), 0)
	mustSettle(t, "with the first that is open", journal(bare(0, 1, 2), sentBy(3, 0, 0, 4), part(3, 2)), 6)
	mustSettle(t, "one that is squeezed", journal(bare(0, 1), squeezed(part(3, 2))), 1)
	mustSettle(t, "it goes on over others", journal(bare(0, 1), part(3, 2), part(3, 1), bare(0, 1), sentBy(3, 0, 3, 1), part(3, 5)), 1)
	mustSettle(t, "producer 0", journal(bare(0, 1), part(0, 2)), 1)
	mustSettle(t, "the greatest producer", journal(bare(0, 1), part(impl.MaxOffset, 2)), 1)
	other := part(3, 2)
	other.Turn = 5
	mustSettle(t, "another Turn is the same transaction", journal(bare(0, 1), part(3, 2), other), 1)
	mustSettle(t, "and ends as the same", journal(bare(0, 1), part(3, 2), other, markOf(3, 5)), 6, impl.Gone{Producer: 3, First: 1, Last: 5})
	mustSettle(t, "with its Base, not with Start", from(2, journal(bare(0, 1), part(3, 4))), 1)
	mustSettle(t, "below Start", from(7, journal(bare(0, 1), part(3, 4), bare(0, 1, 2))), 1)
	mustSettle(t, "with its Base, not with the segment's", impl.Log{Next: 40, Roll: 9, Segments: []impl.Segment{
		{Base: 0, Batches: []impl.Batch{bare(2, 1)}}, {Base: 4, Batches: []impl.Batch{{Base: 9, Producer: 3, Flags: 2, Records: records(2)}}}, {Base: 12},
	}}, 9)
}

func TestWhatEndsATransaction(t *testing.T) {
	ahead := []impl.Batch{bare(0, 1), part(3, 2), bare(0, 1)}
	behind := func(list ...impl.Batch) impl.Log { return journal(append(ahead[:3:3], list...)...) }
	gone := impl.Gone{Producer: 3, First: 1, Last: 4}
	mustSettle(t, "nothing", behind(), 1)
	mustSettle(t, "commit", behind(commitOf(3, 0)), 5)
	mustSettle(t, "abort", behind(markOf(3, 0)), 5, gone)
	mustSettle(t, "a squeezed commit", behind(squeezed(commitOf(3, 0))), 5)
	mustSettle(t, "a squeezed abort", behind(squeezed(markOf(3, 0))), 5, gone)
	mustSettle(t, "an abort of a greater Turn", behind(markOf(3, 9)), 5, gone)
	mustSettle(t, "a commit of a greater Turn", behind(commitOf(3, 9)), 5)
	mustSettle(t, "not another's marker", behind(commitOf(2, 0), markOf(4, 0)), 1)
	mustSettle(t, "not a batch without FlagOpen", behind(sentBy(3, 0, 2, 1)), 1)
	mustSettle(t, "not a keyed record that says so", behind(impl.Batch{Producer: 3, Flags: 2, Records: []impl.Record{{Keyed: true, Key: "abort"}}}), 1)
	mustSettle(t, "the first marker, not the second", behind(markOf(3, 0), markOf(3, 0), commitOf(3, 0)), 7, gone)
	mustSettle(t, "a commit, not the abort behind it", behind(commitOf(3, 0), markOf(3, 0)), 6)
	mustSettle(t, "and it is opened again", behind(commitOf(3, 0), bare(0, 1), part(3, 1), part(3, 1)), 6)
	mustSettle(t, "and again right behind", behind(markOf(3, 0), part(3, 1)), 5, gone)
	mustSettle(t, "and ended again", behind(markOf(3, 0), part(3, 3), part(3, 1), markOf(3, 0)), 10, gone, impl.Gone{Producer: 3, First: 5, Last: 9})
	mustSettle(t, "a commit between two aborts", behind(markOf(3, 0), part(3, 3), commitOf(3, 0), part(3, 1), markOf(3, 0)), 11, gone, impl.Gone{Producer: 3, First: 9, Last: 10})
	low := behind(markOf(3, 0), part(3, 2))
	low.Start = 7
	mustSettle(t, "below Start", low, 5, gone)
}

func TestSeveralTransactionsAtOnce(t *testing.T) {
	mustSettle(t, "the least of them", journal(bare(0, 1), part(5, 2), part(3, 1), part(4, 1)), 1)
	mustSettle(t, "the least that is open still", journal(bare(0, 1), part(5, 2), part(3, 1), part(4, 1), commitOf(5, 0)), 3)
	mustSettle(t, "the first goes on behind its marker", journal(bare(0, 1), part(5, 2), part(3, 1), commitOf(5, 0), part(5, 2)), 3)
	mustSettle(t, "one opened again is not the least", journal(part(5, 2), part(3, 1), commitOf(3, 0), part(3, 1), commitOf(5, 0)), 4)
	list := []impl.Batch{part(5, 2), part(3, 1), part(4, 3), markOf(4, 0), part(3, 1), markOf(5, 0), commitOf(3, 0)}
	gone := []impl.Gone{{Producer: 4, First: 3, Last: 6}, {Producer: 5, First: 0, Last: 8}}
	mustSettle(t, "in the order of their markers", journal(list...), 10, gone...)
	mustSettle(t, "but for those that are open", journal(list[:6]...), 2, gone...)
	mustSettle(t, "when one has ended", journal(list[:4]...), 0, gone[0])
	mustSettle(t, "as many as may be", fullOfDeals(t), 400, impl.Gone{Producer: 0, First: 0, Last: 200}, impl.Gone{Producer: 199, First: 199, Last: 399})
}

// fullOfDeals has all that a log may have: 200 transactions that are open at once, of which the first and the last are aborted.
func fullOfDeals(t *testing.T) impl.Log {
	l := impl.NewLog(0, impl.MaxRoll)
	for i := range 200 {
		l = mustAppend(t, l, part(i, 1))
	}
	for i := range 200 {
		if stable := impl.Stable(l); stable != i {
			t.Errorf("Stable is %d, not %d", stable, i)
		}
		mark := commitOf(i, 0)
		if i == 0 || i == 199 {
			mark = markOf(i, 0)
		}
		l = mustAppend(t, l, mark)
	}
	return l
}

func TestTransactionsOverMissingOffsets(t *testing.T) {
	l := impl.Log{Start: 12, Next: 60, Roll: 60, Segments: []impl.Segment{
		{Base: 1, Batches: []impl.Batch{placed(2, part(3, 2)), placed(10, part(4, 5))}},
		{Base: 20, Batches: []impl.Batch{placed(25, markOf(3, 0)), placed(31, part(3, 1))}},
		{Base: 40, Batches: []impl.Batch{placed(44, bare(0, 1)), placed(50, markOf(4, 0))}},
	}}
	first, second := impl.Gone{Producer: 3, First: 2, Last: 25}, impl.Gone{Producer: 4, First: 10, Last: 50}
	mustSettle(t, "with gaps", l, 31, first, second)
	l.Segments[1].Batches = l.Segments[1].Batches[:1]
	mustSettle(t, "all have ended", l, 60, first, second)
	mustSettle(t, "a last segment without batches", withEmpty(l, 55), 60, first, second)
	l.Segments = l.Segments[1:]
	mustSettle(t, "their beginnings are gone", l, 60)
}

func TestTransactionsOfALogThatIsNotRight(t *testing.T) {
	for name, do := range badLogs() {
		l := gappy()
		for i := range l.Segments {
			l.Segments[i].Batches[0].Producer, l.Segments[i].Batches[0].Flags = 4, impl.FlagOpen
		}
		l.Segments[1].Batches[0].Flags, l.Segments[1].Batches[0].Records = 6, markOf(4, 0).Records
		mustSettle(t, "the log to try", l, 22, impl.Gone{Producer: 4, First: 2, Last: 10})
		do(&l)
		if impl.LogOk(l) {
			t.Errorf("%s: the log is right", name)
		}
		if stable, gone := impl.Stable(l), impl.Aborted(l); stable != -1 || len(gone) != 0 {
			t.Errorf("%s: %d %v", name, stable, gone)
		}
		for _, place := range []int{l.Start, l.Next, 12, 0, -1} {
			mustSeeNothing(t, name, l, place)
		}
	}
}

// dealLog is always right: batches of few producers, most of them open, and markers among each other, with gaps, in few or many segments.
func dealLog(r *rand.Rand) impl.Log {
	l := impl.NewLog(r.Intn(20), pick(r, 60, 200, impl.MaxRoll))
	epoch := 0
	for range r.Intn(30) {
		producer := r.Intn(4)
		b := part(producer, pick(r, 1, 1, 2, 3))
		switch r.Intn(14) {
		case 0, 1, 2:
			b = markOf(producer, r.Intn(3))
		case 3, 4:
			b = commitOf(producer, r.Intn(3))
		case 5:
			b = bare(0, 1, 2)
		case 6:
			b.Flags = 0
		default:
			b.Turn = r.Intn(3)
		}
		epoch += r.Intn(9) / 8
		b.Epoch = epoch
		b.Flags |= pick(r, 0, 0, impl.FlagSqueezed)
		l, _ = impl.Append(l, b)
		if r.Intn(10) == 0 {
			l.Next += r.Intn(4)
		}
	}
	for producer := range 4 * r.Intn(2) {
		mark := pick(r, markOf, commitOf)(producer, 3)
		mark.Epoch = epoch
		l, _ = impl.Append(l, mark)
	}
	if r.Intn(10) == 0 {
		l = withEmpty(l, l.Next)
	}
	l.Start += r.Intn(l.Next - l.Start + 1)
	return l
}

func TestStableAndAbortedAreAsTold(t *testing.T) {
	r := rand.New(rand.NewSource(92))
	open, closed, aborted, wrong := 0, 0, 0, 0
	for range 6000 {
		l := dealLog(r)
		if r.Intn(12) == 0 {
			spoilLog(r, &l)
		}
		stable, gone := impl.Stable(l), impl.Aborted(l)
		if want, wantGone := stableAsTold(l), abortedAsTold(l); stable != want || !slices.Equal(gone, wantGone) {
			t.Fatalf("%d %v, not %d %v: %+v", stable, gone, want, wantGone, l)
		}
		switch {
		case stable < 0:
			wrong++
		case stable < l.Next:
			open++
		default:
			closed++
		}
		aborted += len(gone)
	}
	if open < 800 || closed < 800 || aborted < 5000 || wrong < 100 {
		t.Error("the logs to try are too much alike:", open, closed, aborted, wrong)
	}
}

// mustNotOverlap: those of one producer lie one behind the other, all of them in the order of their ends.
func mustNotOverlap(t *testing.T, gone []impl.Gone) {
	t.Helper()
	ends := map[int]int{}
	last := -1
	for _, g := range gone {
		if end, ok := ends[g.Producer]; ok && g.First <= end {
			t.Fatalf("%+v begins ahead of %d: %+v", g, end, gone)
		}
		if g.First >= g.Last || g.Last <= last {
			t.Fatalf("%+v is out of order: %+v", g, gone)
		}
		ends[g.Producer], last = g.Last, g.Last
	}
}

// Promise 16, of logs at random, whole and cut at either end.
func TestAbortedTransactionsDoNotOverlap(t *testing.T) {
	r := rand.New(rand.NewSource(93))
	several := 0
	for range 3000 {
		l := dealLog(r)
		gone := impl.Aborted(l)
		mustNotOverlap(t, gone)
		of := map[int]int{}
		for _, g := range gone {
			of[g.Producer]++
			several += min(of[g.Producer]-1, 1)
		}
		at := l.Start + r.Intn(l.Next-l.Start+1)
		ahead, _ := impl.CutTo(l, at)
		mustNotOverlap(t, impl.Aborted(ahead))
		cut, _ := impl.CutFrom(l, at)
		mustNotOverlap(t, impl.Aborted(cut))
	}
	if several < 600 {
		t.Error("too few producers aborted more than once:", several)
	}
}
