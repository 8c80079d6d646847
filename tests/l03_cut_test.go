package tests

import (
	"math"
	"math/rand"
	"slices"
	"testing"

	"loop.example/g00035/impl"
)

// logsToCut are right logs of all kinds: with gaps, with a last segment without batches, of many records, at random.
func logsToCut(r *rand.Rand, count int) []impl.Log {
	list := []impl.Log{gappy(), withEmpty(gappy(), 24), withEmpty(gappy(), 30), impl.NewLog(4, 5), {Next: 9, Roll: 1, Segments: []impl.Segment{{Base: 4}}}, ladder(5, 3)}
	atStart := gappy()
	atStart.Start = 0
	list = append(list, atStart)
	for range count {
		list = append(list, randomLog(r))
	}
	return list
}

// A spot is a record and the offset at which it stands.
type spot struct {
	offset int
	time   int
	key    string
	value  string
}

// spots are a log's records with offsets in least .. most.
func spots(list []impl.Batch, least int, most int) []spot {
	out := []spot{}
	for _, b := range list {
		for i, x := range b.Records {
			if b.Base+i >= least && b.Base+i <= most {
				out = append(out, spot{b.Base + i, x.Time, x.Key, x.Value})
			}
		}
	}
	return out
}

func readFromAsTold(l impl.Log, from int, most int) ([]impl.Batch, int) {
	if !logOkAsTold(l) || most < 0 {
		return nil, impl.LogBad
	}
	if from < l.Start || from > l.Next {
		return nil, impl.LogFull
	}
	list := []impl.Batch{}
	for _, b := range allBatches(l) {
		if len(list) == 0 && len(spots([]impl.Batch{b}, from, math.MaxInt)) == 0 {
			continue
		}
		if len(list) > 0 && sizesAsTold(list)+sizeAsTold(b) > most {
			break
		}
		list = append(list, b)
	}
	return list, impl.LogOkay
}

func mustReadFrom(t *testing.T, l impl.Log, from int, most int, bases ...int) {
	t.Helper()
	list, code := impl.ReadFrom(l, from, most)
	want := []impl.Batch{}
	for _, b := range allBatches(l) {
		if slices.Contains(bases, b.Base) {
			want = append(want, b)
		}
	}
	if code != impl.LogOkay || !slices.EqualFunc(list, want, sameBatch) {
		t.Errorf("from %d, most %d: %+v %d, not those at %v", from, most, list, code, bases)
	}
}

func TestReadFromEachOffset(t *testing.T) {
	for _, l := range []impl.Log{gappy(), withEmpty(gappy(), 24), withEmpty(gappy(), 30)} {
		whole := 100000
		for from := 3; from <= 4; from++ {
			mustReadFrom(t, l, from, whole, 2, 6, 10, 14, 22)
		}
		for from := 5; from <= 7; from++ {
			mustReadFrom(t, l, from, whole, 6, 10, 14, 22)
		}
		for from := 8; from <= 10; from++ {
			mustReadFrom(t, l, from, whole, 10, 14, 22)
		}
		for from := 11; from <= 17; from++ {
			mustReadFrom(t, l, from, whole, 14, 22)
		}
		for from := 18; from <= 23; from++ {
			mustReadFrom(t, l, from, whole, 22)
		}
		for from := 24; from <= 30; from++ {
			mustReadFrom(t, l, from, whole)
		}
	}
}

func TestReadFromBeyondTheEnds(t *testing.T) {
	for _, l := range []impl.Log{gappy(), withEmpty(gappy(), 26)} {
		for _, from := range []int{2, 1, 0, -1, math.MinInt, 31, 32, impl.MaxOffset, math.MaxInt} {
			for _, most := range []int{0, 1, 1000} {
				if list, code := impl.ReadFrom(l, from, most); code != impl.LogFull || len(list) != 0 {
					t.Errorf("from %d: %+v %d", from, list, code)
				}
			}
			if list, code := impl.ReadFrom(l, from, -1); code != impl.LogBad || len(list) != 0 {
				t.Errorf("from %d, most below 0: %+v %d", from, list, code)
			}
		}
		for _, most := range []int{-1, math.MinInt} {
			if list, code := impl.ReadFrom(l, 10, most); code != impl.LogBad || len(list) != 0 {
				t.Errorf("most %d: %+v %d", most, list, code)
			}
		}
	}
	empty := impl.NewLog(7, 1)
	mustReadFrom(t, empty, 7, 0)
	mustReadFrom(t, empty, 7, math.MaxInt)
	for _, from := range []int{6, 8} {
		if list, code := impl.ReadFrom(empty, from, 9); code != impl.LogFull || len(list) != 0 {
			t.Errorf("from %d of an empty log: %+v %d", from, list, code)
		}
	}
}

// Sizes that are met exactly are read, those that are passed by one are not, but the first batch always.
func TestReadFromUpToASize(t *testing.T) {
	l := gappy()
	l.Segments[1].Batches[1].Flags = impl.FlagSqueezed
	bases := []int{6, 10, 14, 22}
	together := 0
	for i := range bases {
		together += sizeAsTold(allBatches(l)[i+1])
		mustReadFrom(t, l, 6, together, bases[:i+1]...)
		mustReadFrom(t, l, 6, together-1, bases[:max(i, 1)]...)
	}
	mustReadFrom(t, l, 6, math.MaxInt, bases...)
	for _, most := range []int{0, 1} {
		mustReadFrom(t, l, 6, most, 6)
		mustReadFrom(t, l, 16, most, 14)
		mustReadFrom(t, l, 29, most)
		mustReadFrom(t, l, 30, most)
	}
}

// A great batch ends what is read: a small one behind it that would have found room is not read.
func TestReadFromLeavesNothingOut(t *testing.T) {
	l := impl.NewLog(0, impl.MaxRoll)
	for _, count := range []int{1, 40, 1} {
		l = mustAppend(t, l, impl.Batch{Producer: -1, Records: records(count)})
	}
	all := allBatches(l)
	mustReadFrom(t, l, 0, sizeAsTold(all[0])+sizeAsTold(all[2]), 0)
	mustReadFrom(t, l, 1, sizeAsTold(all[2])+sizeAsTold(all[0]), 1)
}

func TestReadFromIsAsTold(t *testing.T) {
	r := rand.New(rand.NewSource(34))
	for _, l := range logsToCut(r, 300) {
		if r.Intn(4) == 0 {
			spoilLog(r, &l)
		}
		for range 30 {
			from := l.Start - 1 + r.Intn(max(l.Next-l.Start, 0)+3)
			most := pick(r, -1, 0, r.Intn(60), r.Intn(200), r.Intn(500))
			list, code := impl.ReadFrom(l, from, most)
			want, wantCode := readFromAsTold(l, from, most)
			if code != wantCode || !slices.EqualFunc(list, want, sameBatch) {
				t.Fatalf("from %d, most %d: %+v %d, not %+v %d: %+v", from, most, list, code, want, wantCode, l)
			}
		}
	}
}

// Whoever reads on from behind what was read gets all there is, whatever fits at once.
func TestReadOnFromBehindMissesNothing(t *testing.T) {
	r := rand.New(rand.NewSource(35))
	for _, l := range append(logsToCut(r, 200), manyRecords()) {
		got := []impl.Batch{}
		most := pick(r, 0, 30, 100, 3000)
		for at := l.Start; ; {
			list, code := impl.ReadFrom(l, at, most)
			if code != impl.LogOkay {
				t.Fatalf("at %d: %d", at, code)
			}
			if len(list) == 0 {
				break
			}
			got = append(got, list...)
			last := impl.LastOffset(list[len(list)-1])
			if last < at {
				t.Fatalf("nothing new at %d: %+v", at, list)
			}
			at = last + 1
		}
		if want := spots(allBatches(l), l.Start, l.Next); !slices.Equal(spots(got, l.Start, l.Next), want) {
			t.Fatalf("%+v, not %+v", spots(got, l.Start, l.Next), want)
		}
	}
}

func TestOffsetAt(t *testing.T) {
	wants := map[int]int{0: 3, 10: 3, 11: 4, 40: 4, 41: 10, 50: 10, 60: 10, 90: 10, 91: -1, -1: 3, math.MinInt: 3, math.MaxInt: -1, impl.MaxTime: -1}
	for _, l := range []impl.Log{gappy(), withEmpty(gappy(), 24)} {
		for time, want := range wants {
			if got := impl.OffsetAt(l, time); got != want {
				t.Errorf("time %d: %d, not %d", time, got, want)
			}
		}
		l.Start = 11
		for time, want := range map[int]int{0: 14, 15: 14, 16: 15, 60: 15, 61: 22, 70: 22, 71: -1, 90: -1} {
			if got := impl.OffsetAt(l, time); got != want {
				t.Errorf("from 11, time %d: %d, not %d", time, got, want)
			}
		}
		l.Start = 16
		for time, want := range map[int]int{5: 16, 15: 16, 25: 16, 26: 22, 60: 22} {
			if got := impl.OffsetAt(l, time); got != want {
				t.Errorf("from the midst of a batch, time %d: %d, not %d", time, got, want)
			}
		}
		for _, start := range []int{24, 29, 30} {
			l.Start = start
			if got := impl.OffsetAt(l, 0); got != -1 {
				t.Errorf("from %d, where nothing is left: %d", start, got)
			}
		}
	}
	if got := impl.OffsetAt(impl.NewLog(0, 1), 0); got != -1 {
		t.Errorf("of an empty log: %d", got)
	}
}

func TestOffsetAtIsAsTold(t *testing.T) {
	r := rand.New(rand.NewSource(36))
	for _, l := range append(logsToCut(r, 400), manyRecords()) {
		for time := -1; time <= 60; time++ {
			want := -1
			for _, x := range slices.Backward(spots(allBatches(l), l.Start, l.Next)) {
				if x.time >= time {
					want = x.offset
				}
			}
			if got := impl.OffsetAt(l, time); got != want {
				t.Fatalf("time %d: %d, not %d: %+v", time, got, want, l)
			}
		}
	}
}

func cutToAsTold(l impl.Log, to int) impl.Log {
	out := impl.Log{Start: l.Start, Next: to, Roll: l.Roll}
	for _, s := range l.Segments {
		left := impl.Segment{Base: s.Base}
		for _, b := range s.Batches {
			if b.Base < to {
				b.Records = b.Records[:min(len(b.Records), to-b.Base)]
				left.Batches = append(left.Batches, b)
			}
		}
		if len(left.Batches) > 0 {
			out.Segments = append(out.Segments, left)
		}
	}
	return out
}

func cutFromAsTold(l impl.Log, start int) impl.Log {
	out := impl.Log{Start: start, Next: l.Next, Roll: l.Roll}
	for i, s := range l.Segments {
		if i == len(l.Segments)-1 || len(spots(s.Batches, start, math.MaxInt)) > 0 {
			out.Segments = append(out.Segments, s)
		}
	}
	return out
}

// Promise 4: a log cut at an offset has what lies ahead of it, or from it on. Each log is cut at each of its offsets.
func TestLogsCutAtEachOffset(t *testing.T) {
	r := rand.New(rand.NewSource(37))
	for _, l := range append(logsToCut(r, 300), manyRecords()) {
		all := allBatches(l)
		for at := l.Start; at <= l.Next; at++ {
			x, ok := impl.CutTo(l, at)
			if !ok || !impl.LogOk(x) || !sameLog(x, cutToAsTold(l, at)) {
				t.Fatalf("CutTo %d: %+v %v of %+v", at, x, ok, l)
			}
			if !slices.Equal(spots(allBatches(x), 0, l.Next), spots(all, 0, at-1)) || x.Next != at || x.Start != l.Start {
				t.Fatalf("CutTo %d has %+v", at, spots(allBatches(x), 0, l.Next))
			}
			y, ok := impl.CutFrom(l, at)
			if !ok || !impl.LogOk(y) || !sameLog(y, cutFromAsTold(l, at)) {
				t.Fatalf("CutFrom %d: %+v %v of %+v", at, y, ok, l)
			}
			if !slices.Equal(spots(allBatches(y), at, l.Next), spots(all, at, l.Next)) || y.Next != l.Next || y.Start != at {
				t.Fatalf("CutFrom %d has %+v", at, spots(allBatches(y), at, l.Next))
			}
			mustGoOn(t, x, at)
		}
	}
}

// mustGoOn: what is appended to a log that was cut stands at the offset of the cut.
func mustGoOn(t *testing.T, l impl.Log, at int) {
	t.Helper()
	b := bare(0, 5)
	b.Epoch = impl.MaxEpoch
	x := mustAppend(t, l, b)
	if list, code := impl.ReadFrom(x, at, 0); code != impl.LogOkay || len(list) != 1 || list[0].Base != at {
		t.Fatalf("behind a cut at %d: %+v %d", at, list, code)
	}
}

func TestCutsBeyondTheEnds(t *testing.T) {
	for _, l := range []impl.Log{gappy(), withEmpty(gappy(), 26), impl.NewLog(7, 1)} {
		for _, at := range []int{l.Start - 1, 0, -1, math.MinInt, l.Next + 1, impl.MaxOffset, impl.MaxOffset + 1, math.MaxInt} {
			if x, ok := impl.CutTo(l, at); ok || !sameLog(x, impl.Log{}) {
				t.Errorf("CutTo %d: %+v %v", at, x, ok)
			}
			if x, ok := impl.CutFrom(l, at); ok || !sameLog(x, impl.Log{}) {
				t.Errorf("CutFrom %d: %+v %v", at, x, ok)
			}
		}
	}
}

// Offsets below Start stay where CutTo is at Start; a last segment without batches goes with CutTo and stays with CutFrom.
func TestCutsAtStartAndNext(t *testing.T) {
	l := withEmpty(gappy(), 26)
	x, _ := impl.CutTo(l, 3)
	if !sameLog(x, impl.Log{Start: 3, Next: 3, Roll: 60, Segments: []impl.Segment{{Base: 1, Batches: []impl.Batch{bare(2, 50)}}}}) {
		t.Errorf("CutTo at Start: %+v", x)
	}
	if x, _ := impl.CutTo(l, 30); !sameLog(x, gappy()) {
		t.Errorf("CutTo at Next: %+v", x)
	}
	if x, _ := impl.CutFrom(l, 3); !sameLog(x, l) {
		t.Errorf("CutFrom at Start: %+v", x)
	}
	if x, _ := impl.CutFrom(l, 30); !sameLog(x, impl.Log{Start: 30, Next: 30, Roll: 60, Segments: []impl.Segment{{Base: 26}}}) {
		t.Errorf("CutFrom at Next: %+v", x)
	}
	if x, _ := impl.CutFrom(gappy(), 30); !sameLog(x, impl.Log{Start: 30, Next: 30, Roll: 60, Segments: gappy().Segments[2:]}) {
		t.Errorf("CutFrom at Next, the last with batches: %+v", x)
	}
	x, _ = impl.CutTo(l, 15)
	want := gappy().Segments[:2]
	want[1].Batches[1] = bare(14, 15)
	if !sameLog(x, impl.Log{Start: 3, Next: 15, Roll: 60, Segments: want}) {
		t.Errorf("CutTo in the midst of a batch: %+v", x)
	}
	for _, at := range []int{18, 21, 22, 23} {
		if x, _ := impl.CutFrom(l, at); x.Start != at || !sameLog(impl.Log{Segments: x.Segments}, impl.Log{Segments: l.Segments[2:]}) {
			t.Errorf("CutFrom %d: %+v", at, x)
		}
	}
}

// What a cut leaves of a batch keeps all but the records behind the cut.
func TestCutBatchesKeepWhatTheyHad(t *testing.T) {
	b := impl.Batch{Base: 4, Epoch: 3, Producer: 9, Turn: 2, Seq: 70, Flags: impl.FlagSqueezed + impl.FlagOpen, Records: records(5)}
	b.Records[1].Heads = heads(2)
	l := impl.Log{Start: 4, Next: 9, Roll: 50, Segments: []impl.Segment{{Base: 2, Batches: []impl.Batch{b}}}}
	x, ok := impl.CutTo(l, 7)
	want := b
	want.Records = b.Records[:3]
	if !ok || !sameBatch(x.Segments[0].Batches[0], want) || x.Segments[0].Base != 2 {
		t.Errorf("%+v", x)
	}
}

func retainAsTold(l impl.Log, bytes int, time int) (impl.Log, bool) {
	if !logOkAsTold(l) || bytes < 0 {
		return impl.Log{}, false
	}
	out := plainLog(l)
	for len(out.Segments) > 1 {
		rest := impl.Log{Segments: out.Segments[1:]}
		old := true
		for _, x := range spots(out.Segments[0].Batches, 0, math.MaxInt) {
			old = old && x.time < time
		}
		if sizesAsTold(allBatches(rest)) < bytes && !old {
			break
		}
		out.Segments = out.Segments[1:]
		out.Start = max(l.Start, out.Segments[0].Base)
	}
	return out, true
}

func mustRetain(t *testing.T, l impl.Log, bytes int, time int, segments int, start int) {
	t.Helper()
	x, ok := impl.Retain(l, bytes, time)
	want := impl.Log{Start: start, Next: l.Next, Roll: l.Roll, Segments: l.Segments[len(l.Segments)-segments:]}
	if !ok || !sameLog(x, want) {
		t.Errorf("Retain %d, %d: %+v %v, not the last %d from %d on", bytes, time, x, ok, segments, start)
	}
}

func TestRetainByBytes(t *testing.T) {
	l := gappy()
	last := sizesAsTold(l.Segments[2].Batches)
	two := last + sizesAsTold(l.Segments[1].Batches)
	mustRetain(t, l, 0, 0, 1, 20)
	mustRetain(t, l, 1, 0, 1, 20)
	mustRetain(t, l, last, 0, 1, 20)
	mustRetain(t, l, last+1, 0, 2, 10)
	mustRetain(t, l, two, 0, 2, 10)
	mustRetain(t, l, two+1, 0, 3, 3)
	mustRetain(t, l, math.MaxInt, math.MinInt, 3, 3)
	for _, bytes := range []int{-1, math.MinInt} {
		if x, ok := impl.Retain(l, bytes, 0); ok || !sameLog(x, impl.Log{}) {
			t.Errorf("bytes %d: %+v %v", bytes, x, ok)
		}
	}
}

// The last segment stays, be it without batches or of old records alone.
func TestRetainKeepsTheLastSegment(t *testing.T) {
	l := gappy()
	mustRetain(t, l, math.MaxInt, math.MaxInt, 1, 20)
	mustRetain(t, withEmpty(l, 26), 0, 0, 1, 26)
	mustRetain(t, withEmpty(l, 26), 1, 0, 2, 20)
	mustRetain(t, withEmpty(l, 30), math.MaxInt, math.MaxInt, 1, 30)
	mustRetain(t, impl.NewLog(7, 1), 0, math.MaxInt, 0, 7)
	mustRetain(t, impl.Log{Start: 2, Next: 9, Roll: 1, Segments: []impl.Segment{{Base: 4}}}, 0, math.MaxInt, 1, 2)
	one := impl.Log{Start: 0, Next: 30, Roll: 9, Segments: l.Segments[2:]}
	mustRetain(t, one, 0, math.MaxInt, 1, 0)
}

func TestRetainByTime(t *testing.T) {
	l := gappy()
	mustRetain(t, l, math.MaxInt, 50, 3, 3)
	mustRetain(t, l, math.MaxInt, 51, 2, 10)
	mustRetain(t, l, math.MaxInt, 90, 2, 10)
	mustRetain(t, l, math.MaxInt, 91, 1, 20)
	// A young segment at the front keeps the old ones behind it.
	l.Segments[0].Batches[0].Records[0].Time = 1000
	mustRetain(t, l, math.MaxInt, 91, 3, 3)
	// One that goes by its bytes lets the next one go by its Times.
	two := sizesAsTold(l.Segments[1].Batches) + sizesAsTold(l.Segments[2].Batches)
	mustRetain(t, l, two, 91, 1, 20)
}

// Start never falls: it may be behind the Base of what is left.
func TestRetainKeepsAHigherStart(t *testing.T) {
	l := gappy()
	l.Start = 25
	mustRetain(t, l, 0, 0, 1, 25)
	l.Start = 15
	mustRetain(t, l, math.MaxInt, 51, 2, 15)
	l.Start = 0
	mustRetain(t, l, math.MaxInt, 0, 3, 0)
}

// Promise 6: what Retain keeps is the end of the log, by whole segments; kept again it loses nothing more.
func TestRetainKeepsTheEndByWholeSegments(t *testing.T) {
	r := rand.New(rand.NewSource(38))
	for _, l := range append(logsToCut(r, 300), ladder(60, 6), manyRecords()) {
		total := sizesAsTold(allBatches(l))
		for range 12 {
			bytes, time := pick(r, 0, 1, total, total/2, r.Intn(total+1)), pick(r, -1, 0, 8, r.Intn(14), 60)
			x, ok := impl.Retain(l, bytes, time)
			if want, _ := retainAsTold(l, bytes, time); !ok || !impl.LogOk(x) || !sameLog(x, want) {
				t.Fatalf("Retain %d, %d: %+v %v, not %+v", bytes, time, x, ok, want)
			}
			went := len(l.Segments) - len(x.Segments)
			if !sameLog(impl.Log{Segments: x.Segments}, impl.Log{Segments: l.Segments[went:]}) || x.Next != l.Next || x.Start < l.Start {
				t.Fatalf("Retain %d, %d: %+v is not the end of %+v", bytes, time, x, l)
			}
			if !slices.Equal(spots(allBatches(x), x.Start, l.Next), spots(allBatches(l), x.Start, l.Next)) {
				t.Fatalf("Retain %d, %d: a record from Start on is gone: %+v", bytes, time, x)
			}
			if again, ok := impl.Retain(x, bytes, time); !ok || !sameLog(again, x) {
				t.Fatalf("Retain %d, %d again: %+v, not %+v", bytes, time, again, x)
			}
		}
	}
}
