package tests

import (
	"math"
	"math/rand"
	"reflect"
	"slices"
	"testing"

	"loop.example/g00035/impl"
)

func indexAsTold(s impl.Segment, every int) []impl.Entry {
	list := []impl.Entry{}
	if every < 1 || every > 20000 {
		return list
	}
	for i, b := range s.Batches {
		if !batchOkAsTold(b) {
			return []impl.Entry{}
		}
		e := impl.Entry{Offset: b.Base, At: sizesAsTold(s.Batches[:i])}
		for _, x := range spots(s.Batches[:i], math.MinInt, math.MaxInt) {
			e.Time = max(e.Time, x.time)
		}
		if i == 0 || e.At-list[len(list)-1].At >= every {
			list = append(list, e)
		}
	}
	return list
}

func seekAsTold(list []impl.Entry, offset int, time int) (int, int) {
	byOffset, byTime := 0, 0
	for _, e := range list {
		if e.Offset <= offset {
			byOffset = e.At
		}
		if e.Time < time {
			byTime = e.At
		}
	}
	return byOffset, byTime
}

func fileOf(s impl.Segment) []byte {
	data := []byte{}
	for _, b := range s.Batches {
		data = append(data, impl.WriteBatch(b, 2)...)
	}
	return data
}

// evens are batches of one size each, with Times that fall.
func evens() impl.Segment {
	return impl.Segment{Base: 3, Batches: []impl.Batch{bare(4, 9), bare(8, 40), bare(9, 12), bare(20, 30), bare(30, 50)}}
}

func TestIndexOfEachDistance(t *testing.T) {
	s := evens()
	size := sizeAsTold(s.Batches[0])
	all := []impl.Entry{{Offset: 4}, {Offset: 8, Time: 9, At: size}, {Offset: 9, Time: 40, At: 2 * size}, {Offset: 20, Time: 40, At: 3 * size}, {Offset: 30, Time: 40, At: 4 * size}}
	cases := []struct {
		every int
		want  []impl.Entry
	}{
		{1, all},
		{size, all},
		{size + 1, []impl.Entry{all[0], all[2], all[4]}},
		{2 * size, []impl.Entry{all[0], all[2], all[4]}},
		{2*size + 1, []impl.Entry{all[0], all[3]}},
		{3 * size, []impl.Entry{all[0], all[3]}},
		{4 * size, []impl.Entry{all[0], all[4]}},
		{4*size + 1, all[:1]},
		{impl.MaxRoll, all[:1]},
		{0, nil},
		{-1, nil},
		{impl.MaxRoll + 1, nil},
		{math.MaxInt, nil},
		{math.MinInt, nil},
	}
	for _, c := range cases {
		if got := impl.Index(s, c.every); !slices.Equal(got, c.want) {
			t.Errorf("every %d: %+v, not %+v", c.every, got, c.want)
		}
	}
}

func TestIndexOfOddSegments(t *testing.T) {
	for _, every := range []int{1, impl.MaxRoll} {
		if got := impl.Index(impl.Segment{Base: 5}, every); len(got) != 0 {
			t.Errorf("without batches: %+v", got)
		}
		if got := impl.Index(impl.Segment{Base: -9, Batches: evens().Batches[:1]}, every); !slices.Equal(got, []impl.Entry{{Offset: 4}}) {
			t.Errorf("the segment's Base was looked at: %+v", got)
		}
		for name, do := range badBatches() {
			for at := range 5 {
				s := evens()
				s.Batches[at] = ordinary()
				do(&s.Batches[at])
				if got := impl.Index(s, every); len(got) != 0 {
					t.Errorf("%s at %d: %+v", name, at, got)
				}
			}
		}
	}
	// Batches out of order are right each for itself.
	if got := impl.Index(impl.Segment{Batches: []impl.Batch{bare(9, 5, 7), bare(2, 6)}}, 1); !slices.Equal(got, []impl.Entry{{Offset: 9}, {Offset: 2, Time: 7, At: 22}}) {
		t.Errorf("out of order: %+v", got)
	}
}

// A file that is longer than MaxRoll has an entry beyond it.
func TestIndexAtMaxRoll(t *testing.T) {
	s := impl.Segment{Batches: allBatches(manyRecords())}
	s.Batches = append(s.Batches, s.Batches...)
	list := impl.Index(s, impl.MaxRoll)
	if len(list) < 2 || !slices.Equal(list, indexAsTold(s, impl.MaxRoll)) {
		t.Errorf("%+v", list)
	}
}

func TestIndexIsAsTold(t *testing.T) {
	r := rand.New(rand.NewSource(39))
	for _, l := range logsToCut(r, 400) {
		for _, s := range l.Segments {
			if r.Intn(6) == 0 && len(s.Batches) > 0 {
				spoil(r, &s.Batches[r.Intn(len(s.Batches))])
			}
			for range 6 {
				every := pick(r, -1, 0, 1, r.Intn(60), r.Intn(150), impl.MaxRoll, impl.MaxRoll+1)
				if got, want := impl.Index(s, every), indexAsTold(s, every); !slices.Equal(got, want) {
					t.Fatalf("every %d: %+v, not %+v: %+v", every, got, want, s)
				}
			}
		}
	}
}

func TestSeek(t *testing.T) {
	list := []impl.Entry{{Offset: 4, Time: 0, At: 0}, {Offset: 8, Time: 9, At: 20}, {Offset: 20, Time: 9, At: 60}, {Offset: 30, Time: 40, At: 80}}
	for offset, want := range map[int]int{math.MinInt: 0, -1: 0, 0: 0, 3: 0, 4: 0, 7: 0, 8: 20, 19: 20, 20: 60, 29: 60, 30: 80, 31: 80, math.MaxInt: 80} {
		if got, _ := impl.Seek(list, offset, 5); got != want {
			t.Errorf("offset %d: %d, not %d", offset, got, want)
		}
	}
	for time, want := range map[int]int{math.MinInt: 0, -1: 0, 0: 0, 1: 0, 9: 0, 10: 60, 40: 60, 41: 80, math.MaxInt: 80} {
		if _, got := impl.Seek(list, 5, time); got != want {
			t.Errorf("time %d: %d, not %d", time, got, want)
		}
	}
	for _, none := range [][]impl.Entry{nil, {}} {
		if a, b := impl.Seek(none, 5, 5); a != 0 || b != 0 {
			t.Errorf("no entries: %d %d", a, b)
		}
	}
	ahead := []impl.Entry{{Offset: 7, Time: 7, At: 99}}
	if a, b := impl.Seek(ahead, 6, 7); a != 0 || b != 0 {
		t.Errorf("ahead of all: %d %d", a, b)
	}
	if a, b := impl.Seek(ahead, 7, 8); a != 99 || b != 99 {
		t.Errorf("behind all: %d %d", a, b)
	}
}

// The last entry counts, be the entries in order or not.
func TestSeekIsAsTold(t *testing.T) {
	r := rand.New(rand.NewSource(40))
	for range 3000 {
		list := make([]impl.Entry, r.Intn(8))
		for i := range list {
			list[i] = impl.Entry{Offset: r.Intn(10) - 2, Time: r.Intn(10) - 2, At: r.Intn(100) - 5}
		}
		offset, time := r.Intn(12)-3, r.Intn(12)-3
		a, b := impl.Seek(list, offset, time)
		wantA, wantB := seekAsTold(list, offset, time)
		if a != wantA || b != wantB {
			t.Fatalf("%d %d, not %d %d: %d, %d of %+v", a, b, wantA, wantB, offset, time, list)
		}
	}
}

// Promise 5: read from where Seek says, nothing is missed, for each offset and each time.
func TestReadFromWhereSeekSays(t *testing.T) {
	r := rand.New(rand.NewSource(41))
	segments := []impl.Segment{evens(), {Base: 4}}
	for _, l := range append(logsToCut(r, 150), manyRecords()) {
		segments = append(segments, l.Segments...)
	}
	for _, s := range segments {
		file := fileOf(s)
		for _, every := range []int{1, 20, 40, 41, 90, 1000, impl.MaxRoll} {
			mustMissNothing(t, s, file, impl.Index(s, every))
		}
	}
}

func mustMissNothing(t *testing.T, s impl.Segment, file []byte, list []impl.Entry) {
	t.Helper()
	last := s.Base
	if len(s.Batches) > 0 {
		last = impl.LastOffset(s.Batches[len(s.Batches)-1])
	}
	for offset := s.Base - 1; offset <= last+1; offset++ {
		at, _ := impl.Seek(list, offset, 0)
		got, code := impl.ReadAll(file[at:])
		if code != impl.WireOk || !slices.Equal(spots(got, offset, math.MaxInt), spots(s.Batches, offset, math.MaxInt)) {
			t.Fatalf("from offset %d at %d: %d, %+v of %+v", offset, at, code, got, s)
		}
		// No later entry would do: the batch there begins beyond the offset.
		for _, e := range list {
			if e.At > at && e.Offset <= offset {
				t.Fatalf("offset %d begins at %d, not at %d", offset, at, e.At)
			}
		}
	}
	for time := -1; time <= 52; time++ {
		_, at := impl.Seek(list, 0, time)
		got, code := impl.ReadAll(file[at:])
		if code != impl.WireOk || !slices.Equal(sinceTime(got, time), sinceTime(s.Batches, time)) {
			t.Fatalf("from time %d at %d: %d, %+v of %+v", time, at, code, got, s)
		}
	}
}

func sinceTime(list []impl.Batch, time int) []spot {
	return slices.DeleteFunc(spots(list, 0, math.MaxInt), func(x spot) bool { return x.time < time })
}

// roomyLog is a copy of a log all of whose lists have spare room behind them, filled with what must stay.
func roomyLog(l impl.Log) impl.Log {
	out := impl.Log{Start: l.Start, Next: l.Next, Roll: l.Roll}
	for _, s := range l.Segments {
		list := []impl.Batch{}
		for _, b := range s.Batches {
			list = append(list, roomy(b))
		}
		list = append(list, bare(-7, 1), bare(-8, 1))
		out.Segments = append(out.Segments, impl.Segment{Base: s.Base, Batches: list[:len(list)-2]})
	}
	list := append(out.Segments, impl.Segment{Base: -9}, impl.Segment{Base: -10})
	out.Segments = list[:len(list)-2]
	return out
}

// wholeLog tells a log with all that stands in the room behind its lists.
func wholeLog(l impl.Log) impl.Log {
	l.Segments = slices.Clone(l.Segments[:cap(l.Segments)])
	for i, s := range l.Segments {
		list := slices.Clone(s.Batches[:cap(s.Batches)])
		for j, b := range list {
			list[j] = whole(b)
		}
		l.Segments[i].Batches = list
	}
	return l
}

// askAll hands a log to each function of the chapter.
func askAll(l impl.Log, b impl.Batch, number int) ([]impl.Log, []impl.Batch) {
	impl.LogOk(l)
	impl.OffsetAt(l, number)
	for _, s := range l.Segments {
		impl.Seek(impl.Index(s, number), number, number)
	}
	appended, _ := impl.Append(l, b)
	upTo, _ := impl.CutTo(l, number)
	from, _ := impl.CutFrom(l, number)
	kept, _ := impl.Retain(l, number, number)
	list, _ := impl.ReadFrom(l, number, 10*number)
	return []impl.Log{appended, upTo, from, kept}, list
}

func TestLogsLeaveArgumentsAlone(t *testing.T) {
	r := rand.New(rand.NewSource(42))
	for _, l := range logsToCut(r, 400) {
		if r.Intn(4) == 0 {
			spoilLog(r, &l)
		}
		l = roomyLog(l)
		b := roomy(logBatch(r))
		b.Epoch = pick(r, 0, impl.MaxEpoch)
		as, asBatch := wholeLog(l), whole(b)
		for _, number := range []int{l.Start, l.Start + 1, l.Start + 5, l.Next - 1, l.Next, r.Intn(50)} {
			askAll(l, b, number)
		}
		if !reflect.DeepEqual(wholeLog(l), as) || !reflect.DeepEqual(whole(b), asBatch) {
			t.Fatalf("an argument was changed: %+v", as)
		}
	}
	list := []impl.Entry{{Offset: 1}, {Offset: 2}, {Offset: 3}}
	impl.Seek(list[:2], 5, 5)
	if !slices.Equal(list, []impl.Entry{{Offset: 1}, {Offset: 2}, {Offset: 3}}) {
		t.Error("entries were changed")
	}
}

// wreckLog writes over all lists of a log and the room behind them.
func wreckLog(l impl.Log) {
	for _, s := range l.Segments {
		for _, b := range s.Batches {
			wreck(b)
		}
		clear(s.Batches[:cap(s.Batches)])
	}
	clear(l.Segments[:cap(l.Segments)])
}

func TestLogAnswersAreNewMemory(t *testing.T) {
	r := rand.New(rand.NewSource(43))
	for _, l := range logsToCut(r, 400) {
		b := logBatch(r)
		b.Epoch = impl.MaxEpoch
		number := l.Start + r.Intn(l.Next-l.Start+1)
		given, givenBatch := roomyLog(l), roomy(b)
		logs, list := askAll(given, givenBatch, number)
		wants, wantList := askAll(l, b, number)
		refused, _ := impl.Append(given, impl.Batch{})
		logs, wants = append(logs, refused), append(wants, l)
		wreckLog(given)
		wreck(givenBatch)
		for i := range logs {
			if !sameLog(logs[i], wants[i]) {
				t.Fatalf("answer %d shares memory: %+v, not %+v", i, logs[i], wants[i])
			}
		}
		if !slices.EqualFunc(list, wantList, sameBatch) {
			t.Fatalf("what is read shares memory: %+v, not %+v", list, wantList)
		}
	}
}

// Lists that a log has twice are two in an answer: what is written into one, or behind it, is not seen in another.
func TestListsOfAnAnswerShareNothing(t *testing.T) {
	shared := impl.Record{Keyed: true, Key: "k", Heads: heads(2)}
	list := []impl.Record{shared, shared, shared}
	l := impl.Log{Next: 12, Roll: 1}
	for i := range 2 {
		l.Segments = append(l.Segments, impl.Segment{Base: 6 * i, Batches: []impl.Batch{{Base: 6 * i, Producer: -1, Records: list}, {Base: 6*i + 3, Producer: -1, Records: list}}})
	}
	b := impl.Batch{Producer: -1, Records: list}
	ask := func() [][]impl.Batch {
		appended, _ := impl.Append(l, b)
		refused, _ := impl.Append(l, impl.Batch{})
		upTo, _ := impl.CutTo(l, 11)
		from, _ := impl.CutFrom(l, 0)
		kept, _ := impl.Retain(l, 10000, 0)
		read, _ := impl.ReadFrom(l, 0, 10000)
		return [][]impl.Batch{allBatches(appended), allBatches(refused), allBatches(upTo), allBatches(from), allBatches(kept), read}
	}
	wants := ask()
	for i, got := range ask() {
		for j := range got {
			x := &got[j].Records[0]
			for k := range x.Heads[:cap(x.Heads)] {
				x.Heads[:cap(x.Heads)][k] = impl.Head{Key: "written"}
			}
			x.Key = "written"
			_ = append(got[j].Records, impl.Record{Key: "behind"})
			for k := range got {
				same := slices.EqualFunc(got[k].Records[1:], wants[i][k].Records[1:], func(a, b impl.Record) bool { return reflect.DeepEqual(a, b) })
				if !same || k > j && !sameBatch(got[k], wants[i][k]) {
					t.Fatalf("answer %d: batch %d changed with batch %d: %+v", i, k, j, got[k])
				}
			}
		}
	}
}
