package tests

import (
	"math/rand"
	"slices"
	"testing"

	"loop.example/g00035/impl"
)

func sizeAsTold(b impl.Batch) int {
	return len(writeAsTold(b, 2))
}

func sizesAsTold(list []impl.Batch) int {
	total := 0
	for _, b := range list {
		total += sizeAsTold(b)
	}
	return total
}

func appendAsTold(l impl.Log, b impl.Batch) (impl.Log, int) {
	if !logOkAsTold(l) {
		return impl.Log{}, impl.LogBad
	}
	out, all := plainLog(l), allBatches(l)
	b.Base = l.Next
	if !batchOkAsTold(b) || l.Next+len(b.Records) > 1000000000 {
		return out, impl.LogBatch
	}
	if len(all) > 0 && b.Epoch < all[len(all)-1].Epoch {
		return out, impl.LogEpoch
	}
	if len(all) == 400 {
		return out, impl.LogFull
	}
	end := len(l.Segments) - 1
	if end < 0 || len(l.Segments[end].Batches) > 0 && sizesAsTold(l.Segments[end].Batches)+sizeAsTold(b) > l.Roll {
		if len(l.Segments) == 60 {
			return out, impl.LogFull
		}
		out.Segments = append(out.Segments, impl.Segment{Base: b.Base})
		end++
	}
	out.Segments[end].Batches = append(out.Segments[end].Batches, plainLists(b))
	out.Next += len(b.Records)
	return out, impl.LogOkay
}

func mustAppend(t *testing.T, l impl.Log, b impl.Batch) impl.Log {
	t.Helper()
	x, code := impl.Append(l, b)
	if code != impl.LogOkay || !impl.LogOk(x) {
		t.Fatalf("not taken: %d", code)
	}
	return x
}

// mustNotAppend: what is refused leaves the log as it was.
func mustNotAppend(t *testing.T, name string, l impl.Log, b impl.Batch, want int) {
	t.Helper()
	if !impl.LogOk(l) {
		t.Errorf("%s: the log to try is not right", name)
	}
	if x, code := impl.Append(l, b); code != want || !sameLog(x, l) {
		t.Errorf("%s: %d and %+v, not %d and the log", name, code, x, want)
	}
}

// Promise 4: what a log takes stands behind all that was there, at the next offset.
func TestWhatIsAppendedStandsBehindAll(t *testing.T) {
	r := rand.New(rand.NewSource(31))
	for range 400 {
		l := impl.NewLog(r.Intn(50), pick(r, 1, 50, 200, impl.MaxRoll))
		if r.Intn(2) == 0 {
			l = randomLog(r)
		}
		epoch := impl.MaxEpoch / 2
		for range 8 {
			b := logBatch(r)
			epoch += r.Intn(2)
			b.Epoch = epoch
			x := mustAppend(t, l, b)
			b.Base = l.Next
			if want := append(allBatches(l), b); !slices.EqualFunc(allBatches(x), want, sameBatch) {
				t.Fatalf("the batches are %+v, not %+v", allBatches(x), want)
			}
			if x.Start != l.Start || x.Roll != l.Roll || x.Next != l.Next+len(b.Records) {
				t.Fatalf("%d %d %d behind %d %d %d", x.Start, x.Next, x.Roll, l.Start, l.Next, l.Roll)
			}
			if list, code := impl.ReadFrom(x, l.Next, r.Intn(100)); code != impl.LogOkay || len(list) != 1 || !sameBatch(list[0], b) {
				t.Fatalf("read as %+v %d, not %+v", list, code, b)
			}
			l = x
		}
	}
}

// Promise 3: a log's batches, written one behind the other, are read as they are.
func TestALogsBatchesAreReadAsTheyAre(t *testing.T) {
	r := rand.New(rand.NewSource(32))
	logs := []impl.Log{gappy(), withEmpty(gappy(), 25), ladder(1, 400), ladder(60, 3), impl.NewLog(4, 5), manyRecords()}
	for range 400 {
		logs = append(logs, randomLog(r))
	}
	for _, l := range logs {
		data := []byte{}
		for _, b := range allBatches(l) {
			data = append(data, impl.WriteBatch(b, 2)...)
		}
		list, code := impl.ReadAll(data)
		if code != impl.WireOk || !slices.EqualFunc(list, allBatches(l), sameBatch) {
			t.Fatalf("read as %+v %d: %+v", list, code, l)
		}
	}
}

// manyRecords has batches of MaxRecords records, large ones and squeezed ones among them.
func manyRecords() impl.Log {
	l := impl.Log{Start: 45, Roll: 9000}
	for i := range 12 {
		b := impl.Batch{Base: l.Next + i, Producer: i%3 - 1, Flags: i % 2, Records: records(impl.MaxRecords)}
		for j := range b.Records {
			b.Records[j].Time = (i*j + 7*i) % 50
			if i%4 > 1 {
				b.Records[j].Value = long(100)
				b.Records[j].Heads = heads(3)
			}
		}
		if i%3 == 0 {
			l.Segments = append(l.Segments, impl.Segment{Base: b.Base})
		}
		s := &l.Segments[len(l.Segments)-1]
		s.Batches = append(s.Batches, b)
		l.Next = b.Base + impl.MaxRecords
	}
	return l
}

// A batch goes into the last segment when the sizes are together at most Roll.
func TestAppendFillsASegmentUpToRoll(t *testing.T) {
	for _, flags := range []int{0, impl.FlagSqueezed} {
		l := gappy()
		b := bare(0, 1, 2, 3, 4, 5, 6, 7, 8)
		b.Flags = flags
		at := b
		at.Base = l.Next
		l.Roll = sizesAsTold(l.Segments[2].Batches) + sizeAsTold(at)
		x := mustAppend(t, l, b)
		if len(x.Segments) != 3 || len(x.Segments[2].Batches) != 2 || x.Segments[2].Base != 20 {
			t.Errorf("Flags %d, what just fits: %+v", flags, x.Segments)
		}
		l.Roll--
		x = mustAppend(t, l, b)
		if len(x.Segments) != 4 || x.Segments[3].Base != 30 || len(x.Segments[3].Batches) != 1 || len(x.Segments[2].Batches) != 1 {
			t.Errorf("Flags %d, a byte too long: %+v", flags, x.Segments)
		}
	}
}

// The size is that of the batch at the Base that it gets, not at the one that it came with.
func TestAppendCountsTheBytesOfTheNewBase(t *testing.T) {
	l := impl.NewLog(0, 2*sizeAsTold(bare(0, 1)))
	l = mustAppend(t, l, bare(impl.MaxOffset, 1))
	l = mustAppend(t, l, bare(impl.MaxOffset, 1))
	if len(l.Segments) != 1 {
		t.Errorf("a long Base was counted: %+v", l)
	}
	far := impl.NewLog(impl.MaxOffset-5, 2*sizeAsTold(bare(0, 1)))
	far = mustAppend(t, far, bare(0, 1))
	far = mustAppend(t, far, bare(0, 1))
	if len(far.Segments) != 2 {
		t.Errorf("a short Base was counted: %+v", far)
	}
}

func TestAppendToALastSegmentWithoutBatches(t *testing.T) {
	large := impl.Batch{Base: 9, Producer: -1, Records: records(impl.MaxRecords)}
	for _, base := range []int{24, 27, 30} {
		l := withEmpty(gappy(), base)
		l.Roll = 1
		x := mustAppend(t, l, large)
		if len(x.Segments) != 4 || x.Segments[3].Base != base || len(x.Segments[3].Batches) != 1 || x.Segments[3].Batches[0].Base != 30 || x.Next != 70 {
			t.Errorf("Base %d: %+v", base, x.Segments[3:])
		}
	}
	alone := mustAppend(t, impl.Log{Next: 5, Roll: 1, Segments: []impl.Segment{{Base: 2}}}, large)
	if len(alone.Segments) != 1 || alone.Segments[0].Base != 2 || alone.Segments[0].Batches[0].Base != 5 {
		t.Errorf("alone: %+v", alone)
	}
}

// Without segments the first one begins where the batch does, whatever its size.
func TestAppendToALogWithoutSegments(t *testing.T) {
	for _, start := range []int{0, 9, impl.MaxOffset - 40} {
		x := mustAppend(t, impl.NewLog(start, 1), impl.Batch{Producer: -1, Records: records(impl.MaxRecords)})
		if len(x.Segments) != 1 || x.Segments[0].Base != start || x.Segments[0].Batches[0].Base != start || x.Start != start || x.Next != start+40 {
			t.Errorf("%d: %+v", start, x)
		}
	}
	ahead := mustAppend(t, impl.Log{Start: 3, Next: 8, Roll: 1}, bare(0, 1))
	if ahead.Segments[0].Base != 8 || ahead.Start != 3 || ahead.Next != 9 {
		t.Errorf("Start below Next: %+v", ahead)
	}
}

func TestAppendRefusesBatches(t *testing.T) {
	for name, do := range badBatches() {
		b := ordinary()
		do(&b)
		// The Base that a batch comes with is not looked at.
		x := b
		x.Base = 30
		if impl.BatchOk(x) {
			if got, code := impl.Append(gappy(), b); code != impl.LogOkay || got.Next != 30+len(b.Records) {
				t.Errorf("%s: %d", name, code)
			}
			continue
		}
		mustNotAppend(t, name, gappy(), b, impl.LogBatch)
	}
	mustNotAppend(t, "the zero value", gappy(), impl.Batch{}, impl.LogBatch)
}

func TestAppendUpToTheLastOffset(t *testing.T) {
	for _, count := range []int{1, 2, 40} {
		b := impl.Batch{Base: 3, Producer: -1, Records: records(count)}
		l := gappy()
		l.Next = impl.MaxOffset - count
		x := mustAppend(t, l, b)
		if x.Next != impl.MaxOffset || allBatches(x)[5].Base != impl.MaxOffset-count {
			t.Errorf("%d records: %d", count, x.Next)
		}
		l.Next++
		mustNotAppend(t, "a Next beyond", l, b, impl.LogBatch)
		l.Next = impl.MaxOffset
		mustNotAppend(t, "a Next at most", l, b, impl.LogBatch)
	}
}

func TestAppendRefusesLesserEpochs(t *testing.T) {
	last, ahead := gappy(), gappy()
	setEpochs(&last, 0, 0, 0, 1, 7)
	setEpochs(&ahead, 0, 0, 0, 1, 7)
	for name, l := range map[string]impl.Log{"the last segment": last, "the segment ahead": withEmpty(ahead, 26)} {
		for epoch := range 10 {
			b := bare(0, 1)
			b.Epoch = epoch
			if epoch < 7 {
				mustNotAppend(t, name, l, b, impl.LogEpoch)
			} else if x := mustAppend(t, l, b); allBatches(x)[5].Epoch != epoch {
				t.Errorf("%s: Epoch %d", name, epoch)
			}
		}
	}
	if x := mustAppend(t, impl.NewLog(0, 9), bare(0, 1)); x.Next != 1 {
		t.Error("Epoch 0 into an empty log")
	}
}

func TestAppendToAFullLog(t *testing.T) {
	b := bare(0, 1)
	most := ladder(1, 400)
	mustNotAppend(t, "MaxLog batches", most, b, impl.LogFull)
	mustNotAppend(t, "MaxLog in many segments", ladder(40, 10), b, impl.LogFull)
	mustNotAppend(t, "MaxLog, the last segment without", withEmpty(ladder(40, 10), 400), b, impl.LogFull)
	x := mustAppend(t, ladder(1, 399), b)
	if x.Next != 400 || len(x.Segments) != 1 || len(x.Segments[0].Batches) != 400 {
		t.Errorf("the last batch: %d", x.Next)
	}
	mustNotAppend(t, "what just became full", x, b, impl.LogFull)

	segments := ladder(60, 1)
	if x := mustAppend(t, segments, b); len(x.Segments) != 60 || len(x.Segments[59].Batches) != 2 {
		t.Errorf("MaxSegments, no new one needed: %d", len(x.Segments))
	}
	segments.Roll = 1
	mustNotAppend(t, "MaxSegments, a new one needed", segments, b, impl.LogFull)
	fewer := ladder(59, 1)
	fewer.Roll = 1
	if x := mustAppend(t, fewer, b); len(x.Segments) != 60 || x.Segments[59].Base != 59 {
		t.Errorf("the last segment: %d", len(x.Segments))
	}
	if x := mustAppend(t, withEmpty(fewer, 59), b); len(x.Segments) != 60 || len(x.Segments[59].Batches) != 1 {
		t.Errorf("the last segment without batches: %d", len(x.Segments))
	}
}

// Where several reasons apply, the one that comes first is told.
func TestAppendTellsTheFirstReason(t *testing.T) {
	full := ladder(40, 10)
	setAll(&full, 5)
	none, old := bare(0, -1), bare(0, 1)
	none.Epoch = 5
	mustNotAppend(t, "no batch, to a full log", full, none, impl.LogBatch)
	none.Epoch = 4
	mustNotAppend(t, "no batch, of a lesser Epoch", full, none, impl.LogBatch)
	mustNotAppend(t, "a lesser Epoch, to a full log", full, old, impl.LogEpoch)
	old.Epoch = 5
	mustNotAppend(t, "a full log", full, old, impl.LogFull)
	full.Next = impl.MaxOffset
	mustNotAppend(t, "at the last offset, to a full log", full, old, impl.LogBatch)
	old.Epoch = 4
	mustNotAppend(t, "at the last offset, of a lesser Epoch", full, old, impl.LogBatch)
	full.Next = 2
	for _, b := range []impl.Batch{none, old} {
		if x, code := impl.Append(full, b); code != impl.LogBad || !sameLog(x, impl.Log{}) {
			t.Errorf("not right and more: %d", code)
		}
	}
}

func setAll(l *impl.Log, epoch int) {
	for i := range l.Segments {
		for j := range l.Segments[i].Batches {
			l.Segments[i].Batches[j].Epoch = epoch
		}
	}
}

func TestAppendIsAsTold(t *testing.T) {
	r := rand.New(rand.NewSource(33))
	told := [5]int{}
	for range 4000 {
		l, b := randomLog(r), logBatch(r)
		b.Epoch = r.Intn(12)
		switch r.Intn(8) {
		case 0:
			spoilLog(r, &l)
		case 1:
			spoil(r, &b)
		case 2:
			l.Next = impl.MaxOffset - r.Intn(5)
		case 3:
			l = ladder(pick(r, 59, 60), pick(r, 1, 5, 6))
			l.Roll = pick(r, 1, 120, 140)
		case 4:
			all := l.Segments
			if n := len(all); n > 0 && len(all[n-1].Batches) > 0 {
				l.Roll = sizesAsTold(all[n-1].Batches) + sizeAsTold(b) + r.Intn(5) - 2
			}
		}
		x, code := impl.Append(l, b)
		want, wantCode := appendAsTold(l, b)
		if code != wantCode || !sameLog(x, want) {
			t.Fatalf("%d %+v, not %d %+v: %+v, %+v", code, x, wantCode, want, l, b)
		}
		told[code]++
	}
	if slices.Min(told[:]) < 40 {
		t.Error("the logs to try are too much alike:", told)
	}
}
