package tests

import (
	"math"
	"math/rand"
	"slices"
	"strconv"
	"testing"

	"loop.example/g00035/impl"
)

// parcels are lists of records of these sizes, each record unlike all others.
func parcels(sizes ...int) [][]impl.Record {
	list := [][]impl.Record{}
	for i, size := range sizes {
		one := []impl.Record{}
		for j := range size {
			one = append(one, impl.Record{Time: i, Value: strconv.Itoa(i) + "." + strconv.Itoa(j)})
		}
		list = append(list, one)
	}
	return list
}

func taken(seq int, tries int, offset int) impl.Report {
	return impl.Report{Seq: seq, Tries: tries, Code: impl.TakeOk, Offset: offset}
}

func untaken(seq int, tries int, code int) impl.Report {
	return impl.Report{Seq: seq, Tries: tries, Code: code, Offset: -1}
}

// comesAsTold: the Base that a batch would get is not asked of the table; it is Append that refuses for want of offsets.
func comesAsTold(l impl.Log, b impl.Batch, list []impl.Seen) (impl.Log, []impl.Seen, int, int) {
	_, code, offset := takeAsTold(list, b)
	if code != impl.TakeOk {
		return l, list, code, offset
	}
	x, refused := appendAsTold(l, b)
	if refused != impl.LogOkay {
		return l, list, impl.TakeBad, -1
	}
	b.Base = l.Next
	list, _, _ = takeAsTold(list, b)
	return x, list, impl.TakeOk, b.Base
}

func sendAllOkAsTold(l impl.Log, s impl.Sender, sends [][]impl.Record, fates []int) bool {
	ok := logOkAsTold(l) && inBounds(s.Producer, 0, 1000000000) && inBounds(s.Turn, 0, 1000) && inBounds(s.Tries, 1, 10)
	ok = ok && len(sends) <= 60 && len(fates) <= 200
	for _, list := range sends {
		ok = ok && batchOkAsTold(impl.Batch{Producer: -1, Records: list})
	}
	for _, fate := range fates {
		ok = ok && inBounds(fate, 0, 3)
	}
	return ok
}

func sendAllAsTold(l impl.Log, s impl.Sender, sends [][]impl.Record, fates []int) (impl.Log, []impl.Report) {
	if !sendAllOkAsTold(l, s, sends, fates) {
		return impl.Log{}, nil
	}
	reports := []impl.Report{}
	list, _ := learnAsTold(l)
	b := impl.Batch{Producer: s.Producer, Turn: s.Turn}
	if all := allBatches(l); len(all) > 0 {
		b.Epoch = all[len(all)-1].Epoch
	}
	for _, b.Records = range sends {
		told := impl.Report{Seq: b.Seq, Code: 5, Offset: -1}
		for told.Code == 5 && told.Tries < s.Tries {
			told.Tries++
			fate := 0
			if len(fates) > 0 {
				fate, fates = fates[0], fates[1:]
			}
			if fate == 1 {
				continue
			}
			if fate == 3 {
				list, _ = learnAsTold(l)
			}
			var code, offset int
			l, list, code, offset = comesAsTold(l, b, list)
			if fate != 2 {
				told.Code, told.Offset = code, offset
			}
		}
		if told.Code == 1 {
			told.Code = 0
		}
		reports = append(reports, told)
		if told.Code != 0 {
			break
		}
		b.Seq += len(b.Records)
	}
	return l, reports
}

// mustReport: the reports are these, and the log has so many batches of the parcels more than it had, in order.
func mustReport(t *testing.T, name string, l impl.Log, s impl.Sender, sends [][]impl.Record, fates []int, more int, want ...impl.Report) impl.Log {
	t.Helper()
	x, reports := impl.SendAll(l, s, sends, fates)
	if !slices.Equal(reports, want) {
		t.Errorf("%s: %+v, not %+v", name, reports, want)
	}
	behind := allBatches(l)
	seq, next, epoch := 0, l.Next, 0
	if len(behind) > 0 {
		epoch = behind[len(behind)-1].Epoch
	}
	for i, list := range sends {
		if i < more {
			behind = append(behind, impl.Batch{Base: next, Epoch: epoch, Producer: s.Producer, Turn: s.Turn, Seq: seq, Records: list})
			next += len(list)
		}
		seq += len(list)
	}
	if !slices.EqualFunc(allBatches(x), behind, sameBatch) || x.Next != next || x.Start != l.Start || x.Roll != l.Roll || !impl.LogOk(x) {
		t.Errorf("%s: the log is %+v, not one of %+v", name, x, behind)
	}
	return x
}

func TestSendAllOfEachFate(t *testing.T) {
	l := impl.NewLog(4, 500)
	s := impl.Sender{Producer: 3, Turn: 2, Tries: 2}
	one := parcels(2)
	ok, lost, deaf, moved := impl.FateOk, impl.FateLost, impl.FateDeaf, impl.FateMoved
	mustReport(t, "no fates", l, s, one, nil, 1, taken(0, 1, 4))
	mustReport(t, "ok", l, s, one, []int{ok}, 1, taken(0, 1, 4))
	mustReport(t, "lost", l, s, one, []int{lost}, 1, taken(0, 2, 4))
	mustReport(t, "deaf", l, s, one, []int{deaf}, 1, taken(0, 2, 4))
	mustReport(t, "moved", l, s, one, []int{moved}, 1, taken(0, 1, 4))
	mustReport(t, "lost, ok", l, s, one, []int{lost, ok}, 1, taken(0, 2, 4))
	mustReport(t, "deaf, ok", l, s, one, []int{deaf, ok}, 1, taken(0, 2, 4))
	mustReport(t, "lost, moved", l, s, one, []int{lost, moved}, 1, taken(0, 2, 4))
	mustReport(t, "deaf, moved", l, s, one, []int{deaf, moved}, 1, taken(0, 2, 4))
	mustReport(t, "lost, lost", l, s, one, []int{lost, lost}, 0, untaken(0, 2, impl.TakeLost))
	mustReport(t, "lost, deaf", l, s, one, []int{lost, deaf}, 1, untaken(0, 2, impl.TakeLost))
	mustReport(t, "deaf, lost", l, s, one, []int{deaf, lost}, 1, untaken(0, 2, impl.TakeLost))
	mustReport(t, "deaf, deaf", l, s, one, []int{deaf, deaf}, 1, untaken(0, 2, impl.TakeLost))
	mustReport(t, "no batches", l, s, nil, []int{lost, deaf}, 0)
}

func TestSendAllTries(t *testing.T) {
	l := impl.NewLog(0, 500)
	for tries := 1; tries <= 10; tries++ {
		s := impl.Sender{Producer: 1, Tries: tries}
		for lost := range 12 {
			fates := slices.Repeat([]int{impl.FateLost}, lost)
			if lost < tries {
				mustReport(t, "some lost", l, s, parcels(1), fates, 1, taken(0, lost+1, 0))
			} else {
				mustReport(t, "all lost", l, s, parcels(1), fates, 0, untaken(0, tries, impl.TakeLost))
			}
			fates = slices.Repeat([]int{impl.FateDeaf}, lost)
			if lost < tries {
				mustReport(t, "some deaf", l, s, parcels(1), fates, 1, taken(0, lost+1, 0))
			} else {
				mustReport(t, "all deaf", l, s, parcels(1), fates, 1, untaken(0, tries, impl.TakeLost))
			}
		}
	}
}

// Seqs go on over the batches, fates over the tries of all; behind one that is not taken none is sent.
func TestSendAllOfSeveralBatches(t *testing.T) {
	l := impl.NewLog(10, 60)
	sends := parcels(1, 3, 40, 2)
	s := impl.Sender{Producer: impl.MaxOffset, Turn: impl.MaxTurn, Tries: 3}
	ok, lost, deaf, moved := impl.FateOk, impl.FateLost, impl.FateDeaf, impl.FateMoved
	mustReport(t, "all", l, s, sends, nil, 4, taken(0, 1, 10), taken(1, 1, 11), taken(4, 1, 14), taken(44, 1, 54))
	mustReport(t, "fates of each", l, s, sends, []int{deaf, lost, moved, ok, lost, deaf, moved, moved}, 4, taken(0, 3, 10), taken(1, 1, 11), taken(4, 3, 14), taken(44, 1, 54))
	mustReport(t, "the first lost", l, s, sends, []int{lost, lost, lost}, 0, untaken(0, 3, impl.TakeLost))
	mustReport(t, "the second deaf", l, s, sends, []int{ok, deaf, deaf, deaf}, 2, taken(0, 1, 10), untaken(1, 3, impl.TakeLost))
	mustReport(t, "the third deaf and lost", l, s, sends, []int{deaf, moved, ok, lost, deaf, lost, ok}, 3, taken(0, 2, 10), taken(1, 1, 11), untaken(4, 3, impl.TakeLost))
	mustReport(t, "the last lost", l, s, sends, []int{ok, ok, ok, lost, lost, lost}, 3, taken(0, 1, 10), taken(1, 1, 11), taken(4, 1, 14), untaken(44, 3, impl.TakeLost))
}

// Promise 13, in every order of five fates: a batch stands once if one of its tries came there, and is reported by the first one that was answered.
func TestSendAllInEveryOrderOfFates(t *testing.T) {
	sends := parcels(2, 1, 3)
	ahead := journal(sentBy(8, 0, 0, 2), sentBy(5, 3, 0, 2), bare(0, 1), sentBy(5, 3, 2, 1), sentBy(5, 4, 0, 2))
	for number := range 1024 {
		fates := []int{number & 3, number >> 2 & 3, number >> 4 & 3, number >> 6 & 3, number >> 8 & 3}
		for tries := 1; tries <= 4; tries++ {
			more, want := outcome(ahead.Next, sends, fates, tries)
			mustReport(t, "every order", ahead, impl.Sender{Producer: 5, Turn: 5, Tries: tries}, sends, fates, more, want...)
		}
	}
}

// outcome is what becomes of batches that a log takes from an offset on: how many stand, and what is reported.
func outcome(next int, sends [][]impl.Record, fates []int, tries int) (int, []impl.Report) {
	reports := []impl.Report{}
	seq, more := 0, 0
	for i, list := range sends {
		told := untaken(seq, 0, impl.TakeLost)
		for told.Tries < tries && told.Code != impl.TakeOk {
			told.Tries++
			fate := impl.FateOk
			if len(fates) > 0 {
				fate, fates = fates[0], fates[1:]
			}
			if fate != impl.FateLost {
				more = i + 1
			}
			if fate == impl.FateOk || fate == impl.FateMoved {
				told.Code, told.Offset = impl.TakeOk, next+seq
			}
		}
		reports = append(reports, told)
		if told.Code != impl.TakeOk {
			break
		}
		seq += len(list)
	}
	return more, reports
}

// batchesOf are those of a producer's Turn without marks.
func batchesOf(list []impl.Batch, s impl.Sender) []impl.Batch {
	return slices.DeleteFunc(slices.Clone(list), func(b impl.Batch) bool {
		return b.Producer != s.Producer || b.Turn != s.Turn || b.Flags&impl.FlagMark != 0
	})
}

// Promise 13, on logs with batches of the same and of other producers, with long lists of fates: of all batches that are reported as taken each stands once, at its offset and in order, and nothing else was written but a last one that was never answered.
func TestWhatIsReportedStandsOnce(t *testing.T) {
	r := rand.New(rand.NewSource(85))
	all := ledger{}
	for range 4000 {
		l := producersLog(r)
		s := impl.Sender{Producer: r.Intn(6), Turn: pick(r, 0, 1, 2, 3, 9, 50), Tries: 1 + r.Intn(10)}
		sends := someParcels(r)
		x, reports := impl.SendAll(l, s, sends, someFates(r))
		one := ledger{log: l, sender: s, written: writtenBehind(t, l, x), offset: -1}
		for i, told := range reports {
			one.look(t, told, sends[i], i == len(reports)-1)
		}
		if len(one.written) > 0 {
			t.Fatalf("written, and not reported: %+v", one.written)
		}
		mustHaveNoneTwice(t, l, x, s)
		all.taken, all.known, all.refused = all.taken+one.taken, all.known+one.known, all.refused+one.refused
	}
	if all.taken < 3000 || all.known < 80 || all.refused < 500 {
		t.Error("what is sent is too much alike:", all.taken, all.known, all.refused)
	}
}

// writtenBehind are the batches that a log has behind those of another.
func writtenBehind(t *testing.T, l impl.Log, x impl.Log) []impl.Batch {
	t.Helper()
	ahead, all := allBatches(l), allBatches(x)
	if !impl.LogOk(x) || len(all) < len(ahead) || !slices.EqualFunc(all[:len(ahead)], ahead, sameBatch) {
		t.Fatalf("what was there is not: %+v, %+v", x, l)
	}
	return all[len(ahead):]
}

// A ledger holds reports against what was written behind a log, one by one.
type ledger struct {
	log     impl.Log
	sender  impl.Sender
	written []impl.Batch
	seq     int
	offset  int
	taken   int
	known   int
	refused int
}

func (x *ledger) look(t *testing.T, told impl.Report, sent []impl.Record, last bool) {
	t.Helper()
	if told.Seq != x.seq || !inBounds(told.Tries, 1, x.sender.Tries) {
		t.Fatalf("%+v, where Seq %d comes", told, x.seq)
	}
	x.seq += len(sent)
	if told.Code != impl.TakeOk {
		x.refused++
		if told.Offset != -1 || !last {
			t.Fatalf("not taken, and gone on: %+v", told)
		}
		if told.Code == impl.TakeLost && len(x.written) == 1 && sameRecords(x.written[0].Records, sent) {
			x.written = nil
		}
		return
	}
	if told.Offset <= x.offset {
		t.Fatalf("out of order: %+v behind %d", told, x.offset)
	}
	x.offset = told.Offset
	if told.Offset < x.log.Next {
		mustStandAhead(t, allBatches(x.log), x.sender, told, len(sent))
		x.known++
		return
	}
	if len(x.written) == 0 {
		t.Fatalf("told, and not written: %+v", told)
	}
	want := impl.Batch{Base: told.Offset, Epoch: x.written[0].Epoch, Producer: x.sender.Producer, Turn: x.sender.Turn, Seq: told.Seq, Records: sent}
	if !sameBatch(x.written[0], want) {
		t.Fatalf("%+v stands there, not %+v", x.written[0], want)
	}
	x.written = x.written[1:]
	x.taken++
}

func sameRecords(a []impl.Record, b []impl.Record) bool {
	return sameBatch(impl.Batch{Records: a}, impl.Batch{Records: b})
}

// mustStandAhead: what the log knew already of that producer and Turn stands where it is told.
func mustStandAhead(t *testing.T, ahead []impl.Batch, s impl.Sender, told impl.Report, many int) {
	t.Helper()
	for _, b := range batchesOf(ahead, s) {
		if b.Base == told.Offset && b.Seq == told.Seq && len(b.Records) == many {
			return
		}
	}
	t.Fatalf("%+v does not stand there", told)
}

// mustHaveNoneTwice: no Seq of the sender's was written that the log ahead knew, and none twice.
func mustHaveNoneTwice(t *testing.T, l impl.Log, x impl.Log, s impl.Sender) {
	t.Helper()
	next := 0
	for _, seen := range impl.Learn(l) {
		if seen.Producer == s.Producer && seen.Turn == s.Turn {
			next = seen.Next
		}
	}
	for _, b := range batchesOf(allBatches(x)[len(allBatches(l)):], s) {
		if b.Seq != next {
			t.Fatalf("Seq %d is written where %d comes next", b.Seq, next)
		}
		next += len(b.Records)
	}
}

func someParcels(r *rand.Rand) [][]impl.Record {
	sizes := []int{}
	for range r.Intn(12) {
		sizes = append(sizes, pick(r, 1, 1, 2, 3))
	}
	return parcels(sizes...)
}

func someFates(r *rand.Rand) []int {
	fates := []int{}
	for range pick(r, 0, 5, 30, 200) {
		fates = append(fates, pick(r, 0, 1, 1, 2, 2, 2, 3))
	}
	return fates
}

// Promise 14: on a log that has seen a greater Turn nothing is written.
func TestASenderThatWasReplacedWritesNothing(t *testing.T) {
	r := rand.New(rand.NewSource(86))
	tried := 0
	for range 1000 {
		l := producersLog(r)
		for _, seen := range impl.Learn(l) {
			for turn := range seen.Turn {
				s := impl.Sender{Producer: seen.Producer, Turn: turn, Tries: 1 + r.Intn(10)}
				x, reports := impl.SendAll(l, s, parcels(1, 2), someFates(r))
				if !sameLog(x, l) || len(reports) != 1 || reports[0].Offset != -1 || reports[0].Code != impl.TakeFenced && reports[0].Code != impl.TakeLost {
					t.Fatalf("Turn %d, where %d was seen: %+v", turn, seen.Turn, reports)
				}
				tried++
			}
		}
	}
	if tried < 1000 {
		t.Error("too few were replaced:", tried)
	}
}

func TestSendAllToALogThatKnowsTheProducer(t *testing.T) {
	l := journal(sentBy(4, 2, 0, 2), bare(0, 1), sentBy(4, 2, 2, 1), sentBy(4, 2, 3, 3))
	sends := parcels(2, 1, 3, 2)
	as := func(turn int) impl.Sender { return impl.Sender{Producer: 4, Turn: turn, Tries: 2} }
	mustReport(t, "a greater Turn was seen", l, as(1), sends, nil, 0, untaken(0, 1, impl.TakeFenced))
	mustReport(t, "a greater Turn, deaf at first", l, as(0), sends, []int{impl.FateDeaf}, 0, untaken(0, 2, impl.TakeFenced))
	mustReport(t, "a greater Turn, never answered", l, as(0), sends, []int{impl.FateDeaf, impl.FateDeaf}, 0, untaken(0, 2, impl.TakeLost))
	mustReport(t, "a greater Turn, moved", l, as(1), sends, []int{impl.FateMoved}, 0, untaken(0, 1, impl.TakeFenced))
	mustReport(t, "a lesser Turn was seen", l, as(3), sends, nil, 4, taken(0, 1, 7), taken(2, 1, 9), taken(3, 1, 10), taken(6, 1, 13))
	mustReport(t, "the same Turn, another size", l, as(2), parcels(1, 2), nil, 0, untaken(0, 1, impl.TakeGap))
	mustReport(t, "the same Turn, a size that comes later", l, as(2), parcels(2, 2), nil, 0, taken(0, 1, 0), untaken(2, 1, impl.TakeGap))
	// What is there already is not written again, what comes next is.
	x, reports := impl.SendAll(l, as(2), sends, []int{impl.FateLost})
	want := []impl.Report{taken(0, 2, 0), taken(2, 1, 3), taken(3, 1, 4), taken(6, 1, 7)}
	all := allBatches(x)
	if !slices.Equal(reports, want) || len(all) != 5 || all[4].Seq != 6 || all[4].Turn != 2 || len(all[4].Records) != 2 || x.Next != 9 {
		t.Errorf("the same Turn: %+v %+v", reports, all)
	}
	mustReport(t, "another producer", l, impl.Sender{Producer: 5, Tries: 1}, sends, nil, 4, taken(0, 1, 7), taken(2, 1, 9), taken(3, 1, 10), taken(6, 1, 13))
	marked := journal(append(allBatches(l), markOf(4, 5))...)
	mustReport(t, "a mark of a greater Turn", marked, as(4), sends, nil, 0, untaken(0, 1, impl.TakeFenced))
	mustReport(t, "a mark of that Turn", marked, as(5), parcels(1), nil, 1, taken(0, 1, 8))
	long := journal(sentBy(4, 2, 0, 1), sentBy(4, 2, 1, 1), sentBy(4, 2, 2, 1), sentBy(4, 2, 3, 1), sentBy(4, 2, 4, 1), sentBy(4, 2, 5, 1))
	mustReport(t, "gone from Recent", long, as(2), parcels(1), nil, 0, untaken(0, 1, impl.TakeGap))
}

func TestSendAllToALogOfMaxSeenProducers(t *testing.T) {
	batches := []impl.Batch{}
	for i := range 100 {
		batches = append(batches, sentBy(2*i, 0, 0, 1))
	}
	one := impl.Sender{Producer: 7, Tries: 3}
	mustReport(t, "one less", journal(batches[1:]...), one, parcels(1, 1), nil, 2, taken(0, 1, 99), taken(1, 1, 100))
	mustReport(t, "MaxSeen", journal(batches...), one, parcels(1, 1), nil, 0, untaken(0, 1, impl.TakeBad))
	mustReport(t, "MaxSeen, deaf", journal(batches...), one, parcels(1, 1), []int{2, 1}, 0, untaken(0, 3, impl.TakeBad))
	mustReport(t, "one that is there", journal(batches...), impl.Sender{Producer: 8, Turn: 1, Tries: 1}, parcels(1), nil, 1, taken(0, 1, 100))
}

// The Epoch is that of the log's last batch, in whichever segment it stands.
func TestSendAllHasTheEpochOfTheLastBatch(t *testing.T) {
	s := impl.Sender{Producer: 4, Tries: 1}
	epochs := gappy()
	setEpochs(&epochs, 1, 1, 3, 5, 8)
	mustReport(t, "a log without batches", impl.NewLog(3, 9), s, parcels(1), nil, 1, taken(0, 1, 3))
	mustReport(t, "one with a segment", withEmpty(impl.NewLog(3, 9), 3), s, parcels(1), nil, 1, taken(0, 1, 3))
	for name, l := range map[string]impl.Log{"Epochs": epochs, "the last segment without batches": withEmpty(epochs, 28)} {
		x := mustReport(t, name, l, s, parcels(1, 2), nil, 2, taken(0, 1, 30), taken(1, 1, 31))
		if all := allBatches(x); all[5].Epoch != 8 || all[6].Epoch != 8 {
			t.Errorf("%s: Epochs %d and %d", name, all[5].Epoch, all[6].Epoch)
		}
	}
	setEpochs(&epochs, 0, 0, 0, 0, impl.MaxEpoch)
	mustReport(t, "Epoch at most", epochs, s, parcels(1), nil, 1, taken(0, 1, 30))
}

// Where Append refuses the table stays: the same batch is refused once more, not told as one that came twice.
func TestSendAllWhereAppendRefuses(t *testing.T) {
	s := impl.Sender{Producer: 4, Tries: 2}
	narrow := ladder(60, 1)
	narrow.Roll = 1
	nearly := ladder(59, 1)
	nearly.Roll = 1
	far := func(left int) impl.Log { return impl.NewLog(impl.MaxOffset-left, 500) }
	for name, l := range map[string]impl.Log{"MaxLog": ladder(40, 10), "MaxSegments": narrow, "no offset": far(0), "no two offsets": far(1)} {
		mustReport(t, name, l, s, parcels(2, 1), nil, 0, untaken(0, 1, impl.TakeBad))
		mustReport(t, name+", deaf", l, s, parcels(2, 1), []int{impl.FateDeaf}, 0, untaken(0, 2, impl.TakeBad))
		mustReport(t, name+", deaf and moved", l, s, parcels(2, 1), []int{impl.FateDeaf, impl.FateMoved}, 0, untaken(0, 2, impl.TakeBad))
		mustReport(t, name+", never answered", l, s, parcels(2, 1), []int{impl.FateDeaf, impl.FateDeaf}, 0, untaken(0, 2, impl.TakeLost))
	}
	for name, l := range map[string]impl.Log{"MaxLog": ladder(1, 399), "MaxSegments": nearly, "three offsets": far(3), "two offsets": far(2)} {
		x := mustReport(t, name+", the second", l, s, parcels(2, 2, 1), nil, 1, taken(0, 1, l.Next), untaken(2, 1, impl.TakeBad))
		mustReport(t, name+", the second, deaf", l, s, parcels(2, 2, 1), []int{impl.FateDeaf, impl.FateOk, impl.FateDeaf}, 1, taken(0, 2, l.Next), untaken(2, 2, impl.TakeBad))
		// What stands there is known still, though it would have no room now.
		mustReport(t, name+", once more", x, s, parcels(2, 2), nil, 0, taken(0, 1, l.Next), untaken(2, 1, impl.TakeBad))
		mustReport(t, name+", another size", x, s, parcels(1), nil, 0, untaken(0, 1, impl.TakeGap))
	}
	replaced := journal(sentBy(4, 1, 0, 1))
	replaced.Next = impl.MaxOffset
	mustReport(t, "fenced, where no offset is left", replaced, s, parcels(2), nil, 0, untaken(0, 1, impl.TakeFenced))
}

// mustSendNothing: no log and no reports.
func mustSendNothing(t *testing.T, name string, l impl.Log, s impl.Sender, sends [][]impl.Record, fates []int) {
	t.Helper()
	if x, reports := impl.SendAll(l, s, sends, fates); !sameLog(x, impl.Log{}) || len(reports) != 0 {
		t.Errorf("%s: %+v %+v", name, x, reports)
	}
}

func TestSendAllRefusesSenders(t *testing.T) {
	l := impl.NewLog(0, 500)
	for name, s := range map[string]impl.Sender{
		"least": {Producer: 0, Turn: 0, Tries: 1}, "Producer at most": {Producer: impl.MaxOffset, Tries: 1}, "Turn at most": {Turn: impl.MaxTurn, Tries: 1}, "Tries at most": {Tries: 10},
	} {
		mustReport(t, name, l, s, parcels(1), nil, 1, taken(0, 1, 0))
		mustReport(t, name+", nothing to send", l, s, nil, nil, 0)
	}
	for name, s := range map[string]impl.Sender{
		"the zero value": {}, "Producer below 0": {Producer: -1, Tries: 1}, "Producer beyond": {Producer: impl.MaxOffset + 1, Tries: 1}, "greatest Producer": {Producer: math.MaxInt, Tries: 1},
		"Turn below 0": {Turn: -1, Tries: 1}, "Turn beyond": {Turn: impl.MaxTurn + 1, Tries: 1}, "Tries 0": {Tries: 0}, "Tries below 0": {Tries: -1}, "Tries beyond": {Tries: 11}, "greatest Tries": {Tries: math.MaxInt},
	} {
		mustSendNothing(t, name, l, s, parcels(1), nil)
		mustSendNothing(t, name+", nothing to send", l, s, nil, nil)
	}
}

func TestSendAllRefusesBatches(t *testing.T) {
	l := impl.NewLog(0, impl.MaxRoll)
	s := impl.Sender{Producer: 4, Tries: 1}
	ones := slices.Repeat([]int{1}, 61)
	want := []impl.Report{}
	for i := range 60 {
		want = append(want, taken(i, 1, i))
	}
	mustReport(t, "MaxSends", l, s, parcels(ones[:60]...), nil, 60, want...)
	mustSendNothing(t, "one more than MaxSends", l, s, parcels(ones...), nil)
	mustSendNothing(t, "the same, the first lost", l, s, parcels(ones...), []int{impl.FateLost})
	mustReport(t, "most records", l, s, parcels(40, 40), nil, 2, taken(0, 1, 0), taken(40, 1, 40))
	for name, bad := range map[string][]impl.Record{"no records": nil, "an empty list": {}, "too many": records(41), "a Time below 0": {{}, {Time: -1}}, "a Value too long": {{Value: long(101)}}} {
		for at := range 3 {
			sends := slices.Insert(parcels(1, 1), at, bad)
			mustSendNothing(t, name, l, s, sends, nil)
			mustSendNothing(t, name+", the first lost", l, s, sends, []int{impl.FateLost})
		}
	}
	heady := [][]impl.Record{{{Time: impl.MaxTime, Keyed: true, Key: long(100), Value: long(100), Heads: heads(3)}, {Gone: true}}}
	mustReport(t, "records of all kinds", l, s, heady, nil, 1, taken(0, 1, 0))
}

func TestSendAllRefusesFates(t *testing.T) {
	l := impl.NewLog(0, 500)
	s := impl.Sender{Producer: 4, Tries: 10}
	lost := slices.Repeat([]int{impl.FateLost}, 201)
	mustReport(t, "MaxTries", l, s, parcels(1), lost[:200], 0, untaken(0, 10, impl.TakeLost))
	mustReport(t, "MaxTries, nothing to send", l, s, nil, lost[:200], 0)
	mustSendNothing(t, "one more than MaxTries", l, s, parcels(1), lost)
	mustSendNothing(t, "one more, nothing to send", l, s, nil, lost)
	for _, none := range []int{-1, 4, 5, math.MaxInt, math.MinInt} {
		mustSendNothing(t, "a fate that is none", l, s, parcels(1), []int{none})
		mustSendNothing(t, "one that no try takes", l, s, parcels(1), []int{0, 0, none})
		mustSendNothing(t, "one with nothing to send", l, s, nil, []int{none})
	}
}

func TestSendAllRefusesLogs(t *testing.T) {
	for name, do := range badLogs() {
		l := gappy()
		do(&l)
		mustSendNothing(t, name, l, impl.Sender{Producer: 4, Tries: 1}, parcels(1), nil)
		mustSendNothing(t, name+", nothing to send", l, impl.Sender{Producer: 4, Tries: 1}, nil, nil)
	}
}

// spoilSend changes one thing of what is sent, mostly to one beyond its bound or just at it.
func spoilSend(r *rand.Rand, s *impl.Sender, sends *[][]impl.Record, fates *[]int) {
	switch r.Intn(6) {
	case 0:
		s.Producer = pick(r, -1, impl.MaxOffset, impl.MaxOffset+1)
	case 1:
		s.Turn = pick(r, -1, impl.MaxTurn, impl.MaxTurn+1)
	case 2:
		s.Tries = pick(r, 0, 1, 10, 11)
	case 3:
		*sends = append(*sends, records(pick(r, 0, 40, 41)))
	case 4:
		*sends = parcels(slices.Repeat([]int{1}, pick(r, 60, 61))...)
	case 5:
		*fates = append(*fates, pick(r, -1, 3, 4))
	}
}

func TestSendAllIsAsTold(t *testing.T) {
	r := rand.New(rand.NewSource(87))
	told := [6]int{}
	nothing := 0
	for range 4000 {
		l := producersLog(r)
		s := impl.Sender{Producer: r.Intn(5), Turn: r.Intn(4), Tries: pick(r, 1, 2, 3, 10)}
		sends, fates := someParcels(r), someFates(r)
		switch r.Intn(10) {
		case 0:
			spoilLog(r, &l)
		case 1:
			l.Next = impl.MaxOffset - r.Intn(12)
		case 2, 3:
			spoilSend(r, &s, &sends, &fates)
		}
		x, reports := impl.SendAll(l, s, sends, fates)
		want, wantReports := sendAllAsTold(l, s, sends, fates)
		if !sameLog(x, want) || !slices.Equal(reports, wantReports) {
			t.Fatalf("%+v %+v, not %+v %+v: %+v, %+v, %+v, %d", reports, x, wantReports, want, l, s, sends, fates)
		}
		if x.Roll == 0 {
			nothing++
		}
		for _, report := range reports {
			told[report.Code]++
		}
	}
	if told[impl.TakeTwice] != 0 {
		t.Error("a report tells TakeTwice")
	}
	told[impl.TakeTwice] = 100
	if slices.Min(told[:]) < 100 || nothing < 100 {
		t.Error("what is sent is too much alike:", told, nothing)
	}
}
