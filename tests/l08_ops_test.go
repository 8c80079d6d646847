package tests

import (
	"math"
	"math/rand"
	"slices"
	"strings"
	"testing"

	"loop.example/g00035/impl"
)

func bareTold(code int) impl.TxnTold {
	return impl.TxnTold{Code: code, Producer: -1, Turn: -1, Offset: -1}
}

func doTxnAsTold(s impl.Store, op impl.TxnOp) (impl.Store, impl.TxnTold) {
	if !storeOkAsTold(s) {
		return impl.Store{}, bareTold(1)
	}
	x := plainStore(s)
	told := actTxnAsTold(&x, op)
	if told.Code != 0 {
		return plainStore(s), bareTold(told.Code)
	}
	return x, told
}

func actTxnAsTold(x *impl.Store, op impl.TxnOp) impl.TxnTold {
	if op.Kind < 1 || op.Kind > 4 || !impl.NameOk(op.Name) {
		return bareTold(1)
	}
	at := slices.IndexFunc(x.Txns, func(y impl.Txn) bool { return y.Name == op.Name })
	if op.Kind == 1 {
		return initAsTold(x, at, op.Name)
	}
	if at < 0 || x.Txns[at].Producer != op.Producer {
		return bareTold(2)
	}
	if x.Txns[at].Turn != op.Turn {
		return bareTold(3)
	}
	if op.Kind == 2 {
		return writeTxnAsTold(x, at, op)
	}
	return bareTold(endTxnAsTold(x, at, []string{"commit", "abort"}[op.Kind-3]))
}

func initAsTold(x *impl.Store, at int, name string) impl.TxnTold {
	code := 0
	if at < 0 {
		if len(x.Txns) > 19 || x.Used > 999999999 {
			code = 4
		}
		at = len(x.Txns)
		x.Txns = append(x.Txns, impl.Txn{Name: name, Producer: x.Used, Turn: 0, Parts: []int{}})
		x.Used++
	} else {
		// The marker has the new Turn.
		x.Txns[at].Turn++
		code = endTxnAsTold(x, at, "abort")
		if x.Txns[at].Turn > 1000 {
			code = 4
		}
	}
	return impl.TxnTold{Code: code, Producer: x.Txns[at].Producer, Turn: x.Txns[at].Turn, Offset: -1}
}

func epochAsTold(l impl.Log) int {
	all := allBatches(l)
	if len(all) == 0 {
		return 0
	}
	return all[len(all)-1].Epoch
}

func writeTxnAsTold(x *impl.Store, at int, op impl.TxnOp) impl.TxnTold {
	if op.Part < 0 || op.Part >= len(x.Logs) {
		return bareTold(2)
	}
	l, txn := x.Logs[op.Part], &x.Txns[at]
	b := impl.Batch{Epoch: epochAsTold(l), Producer: txn.Producer, Turn: txn.Turn, Flags: 2, Records: op.Records}
	for _, y := range linesOf(l) {
		if y.batch.Producer == txn.Producer && y.batch.Turn == txn.Turn && y.batch.Flags < 4 {
			b.Seq++
		}
	}
	longer, code := appendAsTold(l, b)
	if code != 0 {
		return bareTold(4)
	}
	x.Logs[op.Part] = longer
	txn.Open = true
	txn.Parts = append(txn.Parts, op.Part)
	slices.Sort(txn.Parts)
	txn.Parts = slices.Compact(txn.Parts)
	told := bareTold(0)
	told.Offset = l.Next
	return told
}

func endTxnAsTold(x *impl.Store, at int, key string) int {
	txn := &x.Txns[at]
	for _, n := range txn.Parts {
		time := 0
		for _, y := range linesOf(x.Logs[n]) {
			time = max(time, y.record.Time)
		}
		longer, code := appendAsTold(x.Logs[n], markBatch(epochAsTold(x.Logs[n]), txn.Producer, txn.Turn, time, key))
		if code != 0 {
			return 4
		}
		x.Logs[n] = longer
	}
	txn.Open, txn.Parts = false, []int{}
	return 0
}

func markBatch(epoch int, producer int, turn int, time int, key string) impl.Batch {
	return impl.Batch{Epoch: epoch, Producer: producer, Turn: turn, Flags: 6, Records: []impl.Record{{Time: time, Keyed: true, Key: key}}}
}

// mustTxn: the op is done, this is told, and the store is then as it was but for these changes.
func mustTxn(t *testing.T, name string, s impl.Store, op impl.TxnOp, told impl.TxnTold, changes ...storeChange) impl.Store {
	t.Helper()
	want := plainStore(s)
	for _, do := range changes {
		do(&want)
	}
	x, got := impl.DoTxn(s, op)
	if got != told || !sameStore(x, want) || !impl.StoreOk(x) {
		t.Errorf("%s: %+v, not %+v:\n%+v, not\n%+v", name, got, told, x, want)
	}
	return x
}

// mustNotTxn: what is refused leaves the store as it was.
func mustNotTxn(t *testing.T, name string, s impl.Store, op impl.TxnOp, code int) {
	t.Helper()
	if !impl.StoreOk(s) {
		t.Errorf("%s: the store to try is not right", name)
	}
	if x, got := impl.DoTxn(s, op); got != bareTold(code) || !sameStore(x, s) {
		t.Errorf("%s: %+v, not %d: %+v", name, got, code, x)
	}
}

// grown puts a batch behind a log of a store.
func grown(part int, b impl.Batch) storeChange {
	return func(s *impl.Store) {
		l, code := appendAsTold(s.Logs[part], b)
		if code != impl.LogOkay {
			panic("the batch to expect is not taken")
		}
		s.Logs[part] = l
	}
}

func txnAs(at int, turn int, open bool, parts ...int) storeChange {
	return func(s *impl.Store) {
		s.Txns[at].Turn, s.Txns[at].Open, s.Txns[at].Parts = turn, open, append([]int{}, parts...)
	}
}

func owner(producer int, turn int) impl.TxnTold {
	return impl.TxnTold{Producer: producer, Turn: turn, Offset: -1}
}

func writtenAt(offset int) impl.TxnTold {
	return impl.TxnTold{Producer: -1, Turn: -1, Offset: offset}
}

// alpha is an op of the name of bank that has a transaction under way.
func alpha(kind int) impl.TxnOp {
	return impl.TxnOp{Kind: kind, Name: "alpha", Producer: 2, Turn: 4, Records: records(2)}
}

func TestOpsThatAreNone(t *testing.T) {
	for _, kind := range []int{0, -1, 5, 6, math.MaxInt, math.MinInt} {
		mustNotTxn(t, "Kind", bank(), alpha(kind), impl.TxnBad)
		mustNotTxn(t, "Kind, of no such Name", bank(), impl.TxnOp{Kind: kind, Name: "none"}, impl.TxnBad)
		mustNotTxn(t, "Kind, of another Turn", bank(), impl.TxnOp{Kind: kind, Name: "alpha", Producer: 2}, impl.TxnBad)
	}
	for _, name := range []string{"", "1a", "_", "a b", "a-b", "\xff", strings.Repeat("x", 21)} {
		for kind := range 6 {
			op := alpha(kind)
			op.Name = name
			mustNotTxn(t, "Name", bank(), op, impl.TxnBad)
			full := bank()
			full.Txns, full.Used = idle(20), impl.MaxOffset
			mustNotTxn(t, "Name, of a full store", full, op, impl.TxnBad)
		}
	}
	mustNotTxn(t, "the zero value", bank(), impl.TxnOp{}, impl.TxnBad)
}

func TestOpsOfNamesThatAreNot(t *testing.T) {
	for kind := 2; kind <= 4; kind++ {
		for _, name := range []string{"none", "alph", "alphaa", "Alpha", "b_2", strings.Repeat("x", 20)} {
			op := alpha(kind)
			op.Name = name
			mustNotTxn(t, "no such Name", bank(), op, impl.TxnNone)
			op.Turn, op.Records, op.Part = 9, nil, 77
			mustNotTxn(t, "no such Name, and all else is wrong", bank(), op, impl.TxnNone)
		}
		for _, producer := range []int{-1, 0, 1, 3, 5, 6, 7, impl.MaxOffset, math.MaxInt, math.MinInt} {
			op := alpha(kind)
			op.Producer = producer
			mustNotTxn(t, "another Producer", bank(), op, impl.TxnNone)
			op.Turn, op.Records, op.Part = 3, nil, 77
			mustNotTxn(t, "another Producer, and all else is wrong", bank(), op, impl.TxnNone)
		}
		mustNotTxn(t, "no Names", impl.NewStore(2, 9), alpha(kind), impl.TxnNone)
	}
}

func TestOpsOfAnotherTurn(t *testing.T) {
	full := bank()
	full.Logs[0], full.Logs[3] = ladder(1, 400), ladder(1, 400)
	for kind := 2; kind <= 4; kind++ {
		for _, turn := range []int{0, 3, 5, -1, 1000, 1001, math.MaxInt, math.MinInt} {
			op := alpha(kind)
			op.Turn = turn
			mustNotTxn(t, "another Turn", bank(), op, impl.TxnFenced)
			mustNotTxn(t, "another Turn, logs that refuse", full, op, impl.TxnFenced)
			op.Records = nil
			mustNotTxn(t, "another Turn, no Records", bank(), op, impl.TxnFenced)
			op.Part = 4
			mustNotTxn(t, "another Turn, no such partition", bank(), op, impl.TxnFenced)
		}
		op := alpha(kind)
		if _, told := impl.DoTxn(full, op); told.Code != impl.TxnFull {
			t.Error("its own Turn, logs that refuse:", told)
		}
	}
	// One that rests is fenced likewise.
	for kind := 2; kind <= 4; kind++ {
		mustNotTxn(t, "none under way", bank(), impl.TxnOp{Kind: kind, Name: "c", Producer: 5, Turn: 1, Records: records(1)}, impl.TxnFenced)
	}
}

func TestInitOfANewName(t *testing.T) {
	op := impl.TxnOp{Kind: impl.TxnInit, Name: "new"}
	added := func(s *impl.Store) { s.Txns, s.Used = append(s.Txns, impl.Txn{Name: "new", Producer: 7}), 8 }
	x := mustTxn(t, "behind the others", bank(), op, owner(7, 0), added)
	mustTxn(t, "the rest of the op says nothing", bank(), impl.TxnOp{Kind: 1, Name: "new", Producer: -9, Turn: -9, Part: -9, Records: []impl.Record{{Time: -1}}}, owner(7, 0), added)
	op.Name = "newer"
	mustTxn(t, "the next one", x, op, owner(8, 0), func(s *impl.Store) { s.Txns, s.Used = append(s.Txns, impl.Txn{Name: "newer", Producer: 8}), 9 })
	mustTxn(t, "the first of all", impl.NewStore(1, 1), op, owner(0, 0), func(s *impl.Store) { s.Txns, s.Used = []impl.Txn{{Name: "newer"}}, 1 })
	long := impl.TxnOp{Kind: 1, Name: strings.Repeat("x", 20)}
	mustTxn(t, "a long name", bank(), long, owner(7, 0), func(s *impl.Store) { s.Txns, s.Used = append(s.Txns, impl.Txn{Name: long.Name, Producer: 7}), 8 })
}

func TestInitUpToTheLimits(t *testing.T) {
	op := impl.TxnOp{Kind: impl.TxnInit, Name: "new"}
	s := bank()
	s.Txns, s.Used = idle(19), 30
	x := mustTxn(t, "the last of MaxIds", s, op, owner(30, 0), func(s *impl.Store) { s.Txns, s.Used = append(s.Txns, impl.Txn{Name: "new", Producer: 30}), 31 })
	mustNotTxn(t, "one more", x, impl.TxnOp{Kind: 1, Name: "newer"}, impl.TxnFull)
	mustTxn(t, "one that is there", x, op, owner(30, 1), txnAs(19, 1, false))
	s = bank()
	s.Used = impl.MaxOffset - 1
	x = mustTxn(t, "the last producer", s, op, owner(impl.MaxOffset-1, 0), func(s *impl.Store) {
		s.Txns, s.Used = append(s.Txns, impl.Txn{Name: "new", Producer: impl.MaxOffset - 1}), impl.MaxOffset
	})
	mustNotTxn(t, "no producer is left", x, impl.TxnOp{Kind: 1, Name: "newer"}, impl.TxnFull)
	mustTxn(t, "one that has one", x, op, owner(impl.MaxOffset-1, 1), txnAs(3, 1, false))
	s = bank()
	s.Txns[2].Turn = 999
	c := impl.TxnOp{Kind: 1, Name: "c"}
	x = mustTxn(t, "the last Turn", s, c, owner(5, 1000), txnAs(2, 1000, false))
	mustNotTxn(t, "no Turn is left", x, c, impl.TxnFull)
	s.Txns[0].Turn = 1000
	mustNotTxn(t, "no Turn is left, with a transaction under way", s, impl.TxnOp{Kind: 1, Name: "alpha"}, impl.TxnFull)
	s.Txns[0].Turn = 999
	mustTxn(t, "the last Turn, with a transaction under way", s, impl.TxnOp{Kind: 1, Name: "alpha"}, owner(2, 1000),
		grown(0, markBatch(0, 2, 1000, 1000, "abort")), grown(3, markBatch(0, 2, 1000, 1, "abort")), txnAs(0, 1000, false))
}

func TestInitOfANameThatIsThere(t *testing.T) {
	c := impl.TxnOp{Kind: impl.TxnInit, Name: "c"}
	x := mustTxn(t, "one that rests", bank(), c, owner(5, 1), txnAs(2, 1, false))
	x = mustTxn(t, "and again", x, c, owner(5, 2), txnAs(2, 2, false))
	c.Producer, c.Turn, c.Part, c.Records = 77, 1, 99, records(41)
	mustTxn(t, "the rest of the op says nothing", x, c, owner(5, 3), txnAs(2, 3, false))
	mustTxn(t, "one that wrote nothing", bank(), impl.TxnOp{Kind: 1, Name: "B_2"}, owner(0, 8), txnAs(1, 8, false))
	abort := []storeChange{grown(0, markBatch(0, 2, 5, 1000, "abort")), grown(3, markBatch(0, 2, 5, 1, "abort")), txnAs(0, 5, false)}
	x = mustTxn(t, "one with a transaction under way", bank(), impl.TxnOp{Kind: 1, Name: "alpha"}, owner(2, 5), abort...)
	if gone := impl.Aborted(x.Logs[0]); !slices.Equal(gone, []impl.Gone{{Producer: 2, First: 2, Last: 4}}) || impl.Stable(x.Logs[0]) != 5 {
		t.Error("it was not aborted:", gone)
	}
	for kind := 2; kind <= 4; kind++ {
		mustNotTxn(t, "whoever was replaced", x, alpha(kind), impl.TxnFenced)
	}
	op := alpha(impl.TxnWrite)
	op.Turn = 5
	mustTxn(t, "whoever came", x, op, writtenAt(5), grown(0, impl.Batch{Producer: 2, Turn: 5, Flags: 2, Records: records(2)}), txnAs(0, 5, true, 0))
}

// refusing are logs that refuse a batch of one record, each for another reason.
func refusing() map[string]impl.Log {
	segments := ladder(60, 1)
	segments.Roll = 1
	full := ladder(1, 400)
	return map[string]impl.Log{
		"no offset is left": {Start: 4, Next: impl.MaxOffset, Roll: 60, Segments: []impl.Segment{{Base: 0, Batches: []impl.Batch{bare(3, 1)}}}},
		"the same, empty":   impl.NewLog(impl.MaxOffset, 60),
		"MaxLog":            full,
		"MaxSegments":       segments,
	}
}

func TestInitWhereALogRefuses(t *testing.T) {
	for name, l := range refusing() {
		for _, part := range []int{0, 3} {
			s := bank()
			s.Logs[part] = l
			mustNotTxn(t, name, s, impl.TxnOp{Kind: impl.TxnInit, Name: "alpha"}, impl.TxnFull)
			mustTxn(t, name+", one that rests", s, impl.TxnOp{Kind: 1, Name: "c"}, owner(5, 1), txnAs(2, 1, false))
		}
		s := bank()
		s.Logs[1], s.Logs[2] = l, l
		told := owner(2, 5)
		if _, got := impl.DoTxn(s, impl.TxnOp{Kind: 1, Name: "alpha"}); got != told {
			t.Errorf("%s: logs that it did not write to: %+v", name, got)
		}
	}
}

func TestWriteToEachPartition(t *testing.T) {
	s := bank()
	at := []int{4, 30, 0, 3}
	for part, parts := range [][]int{{0, 3}, {0, 1, 3}, {0, 2, 3}, {0, 3}} {
		op := alpha(impl.TxnWrite)
		op.Part = part
		mustTxn(t, "one that has written", s, op, writtenAt(at[part]), grown(part, impl.Batch{Producer: 2, Turn: 4, Flags: 2, Records: records(2)}), txnAs(0, 4, true, parts...))
		op = impl.TxnOp{Kind: impl.TxnWrite, Name: "c", Producer: 5, Part: part, Records: records(1)}
		seq := []int{0, 0, 0, 2}[part]
		mustTxn(t, "one that rests", s, op, writtenAt(at[part]), grown(part, impl.Batch{Producer: 5, Seq: seq, Flags: 2, Records: records(1)}), txnAs(2, 0, true, part))
		op = impl.TxnOp{Kind: impl.TxnWrite, Name: "B_2", Turn: 7, Part: part, Records: records(40)}
		mustTxn(t, "one that wrote nothing", s, op, writtenAt(at[part]), grown(part, impl.Batch{Turn: 7, Flags: 2, Records: records(40)}), txnAs(1, 7, true, part))
	}
	for _, part := range []int{-1, 4, 5, 12, math.MaxInt, math.MinInt} {
		op := alpha(impl.TxnWrite)
		op.Part = part
		mustNotTxn(t, "no such partition", s, op, impl.TxnNone)
		op.Records = nil
		mustNotTxn(t, "no such partition, no Records", s, op, impl.TxnNone)
	}
	s.Txns[0].Parts = []int{2}
	for part, parts := range [][]int{{0, 2}, {1, 2}, {2}, {2, 3}} {
		op := alpha(impl.TxnWrite)
		op.Part = part
		mustTxn(t, "around one", s, op, writtenAt(at[part]), grown(part, impl.Batch{Producer: 2, Turn: 4, Flags: 2, Records: records(2)}), txnAs(0, 4, true, parts...))
	}
}

func TestWriteIntoMostPartitions(t *testing.T) {
	s := impl.NewStore(12, 200)
	s, _ = impl.DoTxn(s, impl.TxnOp{Kind: impl.TxnInit, Name: "a"})
	for _, part := range []int{11, 0, 5, 7, 6, 1, 10, 3, 2, 4, 9, 8, 0, 11} {
		s, _ = impl.DoTxn(s, impl.TxnOp{Kind: impl.TxnWrite, Name: "a", Part: part, Records: records(1)})
	}
	if !slices.Equal(s.Txns[0].Parts, numbersFrom(0, 11)) {
		t.Error(s.Txns[0].Parts)
	}
	changes := []storeChange{txnAs(0, 0, false)}
	for part := range 12 {
		changes = append(changes, grown(part, markBatch(0, 0, 0, 0, "commit")))
	}
	mustTxn(t, "commit", s, impl.TxnOp{Kind: impl.TxnCommit, Name: "a"}, bareTold(0), changes...)
}

// Seq is how many records of this Producer and Turn stand in that log, whatever their Flags, but for markers'.
func TestTheSeqOfAWrite(t *testing.T) {
	mine := func(turn int, flags int, count int) impl.Batch {
		return impl.Batch{Producer: 2, Turn: turn, Seq: 3, Flags: flags, Records: records(count)}
	}
	for name, x := range map[string]struct {
		log impl.Log
		seq int
	}{
		"an empty log":                 {impl.NewLog(7, 60), 0},
		"without producers":            {gappy(), 0},
		"of the same Turn":             {journal(mine(4, 2, 3)), 3},
		"several":                      {journal(mine(4, 2, 3), bare(0, 1), mine(4, 2, 40)), 43},
		"squeezed":                     {journal(mine(4, 3, 3), mine(4, 1, 2)), 5},
		"without FlagOpen":             {journal(mine(4, 0, 3)), 3},
		"of lesser and greater Turns":  {journal(mine(3, 2, 3), mine(4, 2, 1), mine(5, 2, 4), mine(0, 2, 2)), 1},
		"of other Turns alone":         {journal(mine(3, 2, 3), mine(5, 2, 1)), 0},
		"of another producer":          {journal(sentBy(3, 4, 0, 3), sentBy(5, 4, 0, 2)), 0},
		"of another among its own":     {journal(mine(4, 2, 3), part(3, 7), mine(4, 2, 1), sentBy(1, 4, 0, 2)), 4},
		"markers of the same Turn":     {journal(mine(4, 2, 3), commitOf(2, 4), markOf(2, 4), squeezed(markOf(2, 4))), 3},
		"behind a marker":              {journal(mine(4, 2, 3), commitOf(2, 4), mine(4, 2, 2)), 5},
		"markers alone":                {journal(commitOf(2, 4), markOf(2, 4)), 0},
		"below Start":                  {from(3, journal(mine(4, 2, 3), bare(0, 1))), 3},
		"some below Start":             {from(2, journal(mine(4, 2, 3), bare(0, 1))), 3},
		"a last segment without any":   {withEmpty(journal(mine(4, 2, 3)), 3), 3},
		"over segments and gaps":       {impl.Log{Next: 30, Roll: 9, Segments: []impl.Segment{{Base: 0, Batches: []impl.Batch{mine(4, 2, 2)}}, {Base: 9, Batches: []impl.Batch{placed(11, mine(4, 2, 3))}}}}, 5},
		"as many as a log has nearly":  {fullOf(mine(4, 2, 40), 399), 15960},
		"of the same Turn, two behind": {journal(mine(4, 2, 3), mine(5, 2, 2), mine(6, 2, 2)), 3},
	} {
		s := bank()
		s.Logs[1] = x.log
		op := alpha(impl.TxnWrite)
		op.Part = 1
		mustTxn(t, name, s, op, writtenAt(x.log.Next), grown(1, impl.Batch{Producer: 2, Turn: 4, Seq: x.seq, Flags: 2, Records: records(2)}), txnAs(0, 4, true, 0, 1, 3))
	}
}

func placed(base int, b impl.Batch) impl.Batch {
	b.Base = base
	return b
}

// fullOf has that batch so often, in one segment.
func fullOf(b impl.Batch, count int) impl.Log {
	l := impl.Log{Roll: impl.MaxRoll, Segments: []impl.Segment{{}}}
	for range count {
		l.Segments[0].Batches = append(l.Segments[0].Batches, placed(l.Next, b))
		l.Next += len(b.Records)
	}
	return l
}

func TestTheEpochOfWritesAndMarkers(t *testing.T) {
	for _, l := range []impl.Log{epochLog(3), epochLog(0, 2, 5), epochLog(1, 1, impl.MaxEpoch), withEmpty(epochLog(4, 9), epochLog(4, 9).Next), impl.NewLog(3, 90), withEmpty(impl.NewLog(3, 90), 3)} {
		s := bank()
		s.Logs[1] = l
		s.Txns[1].Parts = []int{1}
		epoch := epochAsTold(l)
		time := 0
		for _, x := range linesOf(l) {
			time = max(time, x.record.Time)
		}
		op := impl.TxnOp{Kind: impl.TxnWrite, Name: "B_2", Turn: 7, Part: 1, Records: records(3)}
		mustTxn(t, "write", s, op, writtenAt(l.Next), grown(1, impl.Batch{Epoch: epoch, Turn: 7, Flags: 2, Records: records(3)}))
		op.Kind = impl.TxnCommit
		mustTxn(t, "commit", s, op, bareTold(0), grown(1, markBatch(epoch, 0, 7, time, "commit")), txnAs(1, 7, false))
		op.Kind = impl.TxnAbort
		mustTxn(t, "abort", s, op, bareTold(0), grown(1, markBatch(epoch, 0, 7, time, "abort")), txnAs(1, 7, false))
		op.Kind = impl.TxnInit
		mustTxn(t, "init", s, op, owner(0, 8), grown(1, markBatch(epoch, 0, 8, time, "abort")), txnAs(1, 8, false))
	}
}

func TestRecordsThatMakeNoBatch(t *testing.T) {
	good := impl.Record{Time: impl.MaxTime, Keyed: true, Key: long(100), Value: long(100), Heads: heads(3)}
	for name, list := range map[string][]impl.Record{
		"none": nil, "an empty list": {}, "too many": records(41), "a Time below 0": {{Time: -1}}, "a Time beyond": {{Time: impl.MaxTime + 1}},
		"a Key without Keyed": {{Key: "k"}}, "a Value that is Gone": {{Gone: true, Value: "v"}}, "a Key that is too long": {{Keyed: true, Key: long(101)}},
		"a Value that is too long": {{Value: long(101)}}, "too many Heads": {{Heads: heads(4)}}, "a Head without Key": {{Heads: []impl.Head{{}}}},
		"the last one is none": {good, good, {Time: -1}},
	} {
		op := alpha(impl.TxnWrite)
		op.Records = list
		mustNotTxn(t, name, bank(), op, impl.TxnFull)
		mustNotTxn(t, name+", one that rests", bank(), impl.TxnOp{Kind: impl.TxnWrite, Name: "c", Producer: 5, Part: 2, Records: list}, impl.TxnFull)
	}
	for _, list := range [][]impl.Record{{good}, {good, {}, {Gone: true}, {Keyed: true}}, records(40), {{Keyed: true, Key: "commit"}}} {
		op := alpha(impl.TxnWrite)
		op.Records = list
		mustTxn(t, "just at the bounds", bank(), op, writtenAt(4), grown(0, impl.Batch{Producer: 2, Turn: 4, Flags: 2, Records: list}))
	}
}

func TestWriteWhereTheLogRefuses(t *testing.T) {
	for name, l := range refusing() {
		s := bank()
		s.Logs[0], s.Logs[1] = l, l
		op := alpha(impl.TxnWrite)
		mustNotTxn(t, name, s, op, impl.TxnFull)
		op.Part = 1
		mustNotTxn(t, name+", one that is new to it", s, op, impl.TxnFull)
		mustNotTxn(t, name+", one that rests", s, impl.TxnOp{Kind: impl.TxnWrite, Name: "c", Producer: 5, Records: records(1)}, impl.TxnFull)
		op.Part = 2
		mustTxn(t, name+", to another", s, op, writtenAt(0), grown(2, impl.Batch{Producer: 2, Turn: 4, Flags: 2, Records: records(2)}), txnAs(0, 4, true, 0, 2, 3))
	}
	s := bank()
	s.Logs[2] = impl.NewLog(impl.MaxOffset-2, 60)
	op := alpha(impl.TxnWrite)
	op.Part = 2
	x := mustTxn(t, "up to the last offset", s, op, writtenAt(impl.MaxOffset-2), grown(2, impl.Batch{Producer: 2, Turn: 4, Flags: 2, Records: records(2)}), txnAs(0, 4, true, 0, 2, 3))
	for _, kind := range []int{impl.TxnInit, impl.TxnCommit, impl.TxnAbort} {
		mustNotTxn(t, "there is no room for the marker", x, alpha(kind), impl.TxnFull)
	}
	op.Records = records(3)
	mustNotTxn(t, "beyond the last offset", s, op, impl.TxnFull)
}

func TestEndsWithNoneUnderWay(t *testing.T) {
	for kind := impl.TxnCommit; kind <= impl.TxnAbort; kind++ {
		mustTxn(t, "one that rests", bank(), impl.TxnOp{Kind: kind, Name: "c", Producer: 5}, bareTold(0))
		mustTxn(t, "one that wrote nothing", bank(), impl.TxnOp{Kind: kind, Name: "B_2", Turn: 7}, bareTold(0), txnAs(1, 7, false))
		s := bank()
		for name, l := range refusing() {
			s.Logs[0], s.Logs[1], s.Logs[2], s.Logs[3] = l, l, l, l
			mustTxn(t, name, s, impl.TxnOp{Kind: kind, Name: "c", Producer: 5, Part: 99, Records: []impl.Record{{Time: -1}}}, bareTold(0))
		}
	}
}

func TestEndsOfATransaction(t *testing.T) {
	for kind, key := range map[int]string{impl.TxnCommit: "commit", impl.TxnAbort: "abort"} {
		op := alpha(kind)
		x := mustTxn(t, key, bank(), op, bareTold(0), grown(0, markBatch(0, 2, 4, 1000, key)), grown(3, markBatch(0, 2, 4, 1, key)), txnAs(0, 4, false))
		mustTxn(t, key+", once more", x, op, bareTold(0))
		op.Part, op.Records = 99, []impl.Record{{Time: -1}}
		mustTxn(t, key+", the rest of the op says nothing", x, op, bareTold(0))
		s := bank()
		s.Txns[0].Parts = []int{1}
		mustTxn(t, key+" of one Part", s, op, bareTold(0), grown(1, markBatch(0, 2, 4, 90, key)), txnAs(0, 4, false))
		s.Txns[0].Parts = []int{0, 1, 2, 3}
		mustTxn(t, key+" of all", s, op, bareTold(0), grown(0, markBatch(0, 2, 4, 1000, key)), grown(1, markBatch(0, 2, 4, 90, key)),
			grown(2, markBatch(0, 2, 4, 0, key)), grown(3, markBatch(0, 2, 4, 1, key)), txnAs(0, 4, false))
	}
}

// The Time is the greatest of all records in that log: below Start, of others, of markers too.
func TestTheTimeOfAMarker(t *testing.T) {
	late := markOf(7, 0)
	late.Records[0].Time = impl.MaxTime
	for name, x := range map[string]struct {
		log  impl.Log
		time int
	}{
		"an empty log":       {impl.NewLog(5, 60), 0},
		"Times 0":            {journal(bare(0, 0, 0)), 0},
		"the first":          {journal(bare(0, 9, 3), bare(0, 4)), 9},
		"the last":           {journal(bare(0, 1, 3), bare(0, 4)), 4},
		"in the midst":       {journal(bare(0, 1, 3, 2), bare(0, 2)), 3},
		"below Start":        {from(4, journal(bare(0, 1, 33), bare(0, 2, 4, 5))), 33},
		"at the most":        {journal(bare(0, impl.MaxTime), bare(0, 2)), impl.MaxTime},
		"of a marker":        {journal(bare(0, 7), late, bare(0, 2)), impl.MaxTime},
		"over many segments": {gappy(), 90},
	} {
		for _, kind := range []int{impl.TxnInit, impl.TxnCommit, impl.TxnAbort} {
			s := bank()
			s.Logs[2] = x.log
			s.Txns[1].Parts = []int{2}
			y, told := impl.DoTxn(s, impl.TxnOp{Kind: kind, Name: "B_2", Turn: 7})
			all := allBatches(y.Logs[2])
			mark := all[len(all)-1]
			if told.Code != impl.TxnDone || len(all) != len(allBatches(x.log))+1 || mark.Records[0].Time != x.time || mark.Flags != 6 || mark.Seq != 0 {
				t.Errorf("%s: %+v %+v", name, told, mark)
			}
		}
	}
}

func TestEndsWhereALogRefuses(t *testing.T) {
	for name, l := range refusing() {
		for _, part := range []int{0, 3} {
			s := bank()
			s.Logs[part] = l
			mustNotTxn(t, name, s, alpha(impl.TxnCommit), impl.TxnFull)
			mustNotTxn(t, name, s, alpha(impl.TxnAbort), impl.TxnFull)
			// What was marked in vain leaves nothing in the way of what comes behind it.
			op := alpha(impl.TxnWrite)
			op.Part = 3 - part
			ops := []impl.TxnOp{alpha(impl.TxnCommit), alpha(impl.TxnAbort), op, alpha(impl.TxnCommit)}
			x, list := impl.RunTxns(s, ops)
			want := plainStore(s)
			grown(3-part, impl.Batch{Producer: 2, Turn: 4, Flags: 2, Records: records(2)})(&want)
			at := s.Logs[3-part].Next
			if !slices.Equal(list, []impl.TxnTold{bareTold(4), bareTold(4), writtenAt(at), bareTold(4)}) || !sameStore(x, want) {
				t.Errorf("%s: %+v\n%+v, not\n%+v", name, list, x, want)
			}
		}
	}
}

// opFor is an op that a store has mostly something to do with.
func opFor(r *rand.Rand, s impl.Store) impl.TxnOp {
	op := impl.TxnOp{Kind: pick(r, 1, 2, 2, 2, 2, 3, 4), Name: pick(r, "new", "n0", "n1", "n9"), Producer: r.Intn(9), Turn: r.Intn(3)}
	op.Part = r.Intn(len(s.Logs) + 1)
	op.Records = records(pick(r, 1, 1, 2, 3, 40))
	for i := range op.Records {
		op.Records[i].Time = r.Intn(1000)
	}
	if len(s.Txns) > 0 && r.Intn(6) > 0 {
		x := s.Txns[r.Intn(len(s.Txns))]
		op.Name, op.Producer, op.Turn, op.Part = x.Name, x.Producer, x.Turn, r.Intn(len(s.Logs))
		if op.Kind == 1 && r.Intn(2) == 0 {
			op.Name = "m" + long(r.Intn(3))
		}
	}
	switch r.Intn(24) {
	case 0:
		op.Kind = pick(r, 0, -1, 5)
	case 1:
		op.Name = pick(r, "", "9", "none")
	case 2:
		op.Producer = pick(r, -1, op.Producer-1, op.Producer+1, s.Used)
	case 3, 4:
		op.Turn += pick(r, -1, 1)
	case 5:
		op.Part = pick(r, -1, len(s.Logs))
	case 6:
		op.Records = pick(r, nil, records(41), []impl.Record{{Time: -1}})
	}
	return op
}

func TestDoTxnIsAsTold(t *testing.T) {
	r := rand.New(rand.NewSource(97))
	told := [5][5]int{}
	for range 1500 {
		s := randomStore(r)
		if r.Intn(25) == 0 {
			spoilStore(r, &s)
		}
		for range 1 + r.Intn(12) {
			if len(s.Logs) == 0 {
				break
			}
			op := opFor(r, s)
			x, got := impl.DoTxn(s, op)
			want, wantTold := doTxnAsTold(s, op)
			if got != wantTold || !sameStore(x, want) {
				t.Fatalf("%+v, not %+v: %+v:\n%+v, not\n%+v", got, wantTold, op, x, want)
			}
			if op.Kind >= 1 && op.Kind <= 4 {
				told[op.Kind][got.Code]++
			}
			s = x
		}
	}
	for kind := 1; kind <= 4; kind++ {
		for code, count := range told[kind] {
			if count < 20 && (kind > 1 || code != impl.TxnNone && code != impl.TxnFenced) {
				t.Error("the ops to try are too much alike:", kind, code, count)
			}
		}
	}
}
