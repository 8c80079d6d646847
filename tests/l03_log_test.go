package tests

import (
	"math"
	"math/rand"
	"reflect"
	"slices"
	"testing"

	"loop.example/g00035/impl"
)

func TestLimitsOfLogs(t *testing.T) {
	if !slices.Equal([]int{impl.MaxSegments, impl.MaxRoll, impl.MaxLog}, []int{60, 20000, 400}) {
		t.Error("a limit is another than the document's")
	}
	codes := []int{impl.LogOkay, impl.LogBad, impl.LogBatch, impl.LogEpoch, impl.LogFull}
	if !slices.Equal(codes, []int{0, 1, 2, 3, 4}) {
		t.Error("a code is another than the document's:", codes)
	}
}

// bare has records without Key and Value, with these Times.
func bare(base int, times ...int) impl.Batch {
	b := impl.Batch{Base: base, Producer: -1}
	for _, time := range times {
		b.Records = append(b.Records, impl.Record{Time: time})
	}
	return b
}

// gappy has offsets missing everywhere: below Start, between batches, between segments, ahead of Next; and Times that fall.
func gappy() impl.Log {
	return impl.Log{Start: 3, Next: 30, Roll: 60, Segments: []impl.Segment{
		{Base: 1, Batches: []impl.Batch{bare(2, 50, 10, 40), bare(6, 20, 30)}},
		{Base: 10, Batches: []impl.Batch{bare(10, 90), bare(14, 15, 60, 25, 5)}},
		{Base: 20, Batches: []impl.Batch{bare(22, 70, 35)}},
	}}
}

// withEmpty puts a segment without batches behind the others.
func withEmpty(l impl.Log, base int) impl.Log {
	l.Segments = append(slices.Clone(l.Segments), impl.Segment{Base: base})
	return l
}

// ladder has so many segments with so many batches of one record in each.
func ladder(segments int, batches int) impl.Log {
	l := impl.Log{Roll: impl.MaxRoll}
	for range segments {
		s := impl.Segment{Base: l.Next}
		for range batches {
			s.Batches = append(s.Batches, bare(l.Next, 7))
			l.Next++
		}
		l.Segments = append(l.Segments, s)
	}
	return l
}

func allBatches(l impl.Log) []impl.Batch {
	list := []impl.Batch{}
	for _, s := range l.Segments {
		list = append(list, s.Batches...)
	}
	return list
}

// plainLog is a copy of a log in which all empty lists are alike.
func plainLog(l impl.Log) impl.Log {
	out := impl.Log{Start: l.Start, Next: l.Next, Roll: l.Roll, Segments: []impl.Segment{}}
	for _, s := range l.Segments {
		x := impl.Segment{Base: s.Base, Batches: []impl.Batch{}}
		for _, b := range s.Batches {
			x.Batches = append(x.Batches, plainLists(b))
		}
		out.Segments = append(out.Segments, x)
	}
	return out
}

func sameLog(a impl.Log, b impl.Log) bool {
	return reflect.DeepEqual(plainLog(a), plainLog(b))
}

func logOkAsTold(l impl.Log) bool {
	ok := l.Roll >= 1 && l.Roll <= 20000 && len(l.Segments) <= 60
	ok = ok && l.Start >= 0 && l.Start <= l.Next && l.Next <= 1000000000
	all := []impl.Batch{}
	for i, s := range l.Segments {
		ok = ok && s.Base >= 0 && s.Base <= 1000000000
		if len(s.Batches) > 0 {
			ok = ok && s.Base <= s.Batches[0].Base
		} else {
			ok = ok && i == len(l.Segments)-1 && s.Base <= l.Next
		}
		for _, b := range all {
			ok = ok && s.Base >= b.Base+len(b.Records)
		}
		all = append(all, s.Batches...)
	}
	ok = ok && len(all) <= 400
	for i, b := range all {
		ok = ok && batchOkAsTold(b) && b.Base+len(b.Records)-1 < l.Next
		ok = ok && (i == 0 || b.Base > all[i-1].Base+len(all[i-1].Records)-1 && b.Epoch >= all[i-1].Epoch)
	}
	return ok
}

type logChange = func(l *impl.Log)

func TestLogOkTakes(t *testing.T) {
	good := map[string]logChange{
		"as it is":                         func(l *impl.Log) {},
		"Start 0":                          func(l *impl.Log) { l.Start = 0 },
		"Start in the midst of a batch":    func(l *impl.Log) { l.Start = 15 },
		"Start at Next":                    func(l *impl.Log) { l.Start = 30 },
		"Start where no offset is":         func(l *impl.Log) { l.Start = 12 },
		"Next right behind":                func(l *impl.Log) { l.Next = 24 },
		"Next at most":                     func(l *impl.Log) { l.Next = impl.MaxOffset },
		"Start at most":                    func(l *impl.Log) { l.Start, l.Next = impl.MaxOffset, impl.MaxOffset },
		"Roll 1":                           func(l *impl.Log) { l.Roll = 1 },
		"Roll at most":                     func(l *impl.Log) { l.Roll = 20000 },
		"no segments":                      func(l *impl.Log) { l.Segments = nil },
		"an empty list of segments":        func(l *impl.Log) { l.Segments = []impl.Segment{} },
		"no segments at the least":         func(l *impl.Log) { *l = impl.Log{Roll: 1} },
		"no segments at the most":          func(l *impl.Log) { *l = impl.Log{Start: impl.MaxOffset, Next: impl.MaxOffset, Roll: 1} },
		"least Base":                       func(l *impl.Log) { l.Segments[0].Base = 0 },
		"Base that of the first batch":     func(l *impl.Log) { l.Segments[0].Base, l.Segments[1].Base, l.Segments[2].Base = 2, 10, 22 },
		"Base right behind the one ahead":  func(l *impl.Log) { l.Segments[1].Base, l.Segments[2].Base = 8, 18 },
		"batches right behind each other":  func(l *impl.Log) { l.Segments[0].Batches[0].Base, l.Segments[1].Batches[0].Base = 3, 13 },
		"Epochs alike":                     func(l *impl.Log) { setEpochs(l, 4, 4, 4, 4, 4) },
		"Epochs that rise":                 func(l *impl.Log) { setEpochs(l, 0, 1, 2, 3, impl.MaxEpoch) },
		"a last segment without batches":   func(l *impl.Log) { *l = withEmpty(*l, 26) },
		"the same right behind the others": func(l *impl.Log) { *l = withEmpty(*l, 24) },
		"the same at Next":                 func(l *impl.Log) { *l = withEmpty(*l, 30) },
		"one segment, without batches":     func(l *impl.Log) { l.Segments = []impl.Segment{{Base: 0}} },
		"the same behind Start":            func(l *impl.Log) { l.Segments = []impl.Segment{{Base: 17}} },
		"the same, at most":                func(l *impl.Log) { l.Next, l.Segments = impl.MaxOffset, []impl.Segment{{Base: impl.MaxOffset}} },
		"most segments":                    func(l *impl.Log) { *l = ladder(60, 1) },
		"the last of them without batches": func(l *impl.Log) { *l = withEmpty(ladder(59, 1), 59) },
		"most batches in one segment":      func(l *impl.Log) { *l = ladder(1, 400) },
		"most batches in many":             func(l *impl.Log) { *l = ladder(40, 10) },
		"most records":                     func(l *impl.Log) { l.Next, l.Segments[2].Batches[0].Records = 62, records(40) },
		"sizes beyond Roll":                func(l *impl.Log) { l.Roll = 1 },
		"a last offset one below the most": func(l *impl.Log) { l.Next, l.Segments[2].Batches[0].Base = impl.MaxOffset, impl.MaxOffset-2 },
		"producers, flags and markers":     func(l *impl.Log) { l.Segments[0].Batches[1] = producersOwn(6); l.Segments[1].Batches[0] = markerAt(10) },
	}
	for name, do := range good {
		l := gappy()
		do(&l)
		if !logOkAsTold(l) || !impl.LogOk(l) {
			t.Errorf("refused: %s", name)
		}
	}
}

func setEpochs(l *impl.Log, epochs ...int) {
	for i := range l.Segments {
		for j := range l.Segments[i].Batches {
			l.Segments[i].Batches[j].Epoch = epochs[0]
			epochs = epochs[1:]
		}
	}
}

func producersOwn(base int) impl.Batch {
	b := ordinary()
	b.Base, b.Epoch, b.Flags = base, 0, 3
	return b
}

func markerAt(base int) impl.Batch {
	b := marker("abort")
	b.Base, b.Epoch = base, 0
	return b
}

// badLogs are not right, each for one reason.
func badLogs() map[string]logChange {
	return map[string]logChange{
		"the zero value":                        func(l *impl.Log) { *l = impl.Log{} },
		"Roll 0":                                func(l *impl.Log) { l.Roll = 0 },
		"Roll below 0":                          func(l *impl.Log) { l.Roll = -1 },
		"Roll beyond":                           func(l *impl.Log) { l.Roll = 20001 },
		"Start below 0":                         func(l *impl.Log) { l.Start = -1 },
		"Start above Next":                      func(l *impl.Log) { l.Start = 31 },
		"Start above Next, no segments":         func(l *impl.Log) { l.Start, l.Next, l.Segments = 1, 0, nil },
		"Next beyond":                           func(l *impl.Log) { l.Next = impl.MaxOffset + 1 },
		"Next beyond, no segments":              func(l *impl.Log) { l.Next, l.Segments = impl.MaxOffset+1, nil },
		"greatest Next":                         func(l *impl.Log) { l.Next = math.MaxInt },
		"Start and Next below 0":                func(l *impl.Log) { l.Start, l.Next, l.Segments = -1, -1, nil },
		"Next below an offset":                  func(l *impl.Log) { l.Next = 23 },
		"Next far below":                        func(l *impl.Log) { l.Next = 8 },
		"Base below 0":                          func(l *impl.Log) { l.Segments[0].Base = -1 },
		"Base above the first batch's":          func(l *impl.Log) { l.Segments[0].Base = 3 },
		"a later one's":                         func(l *impl.Log) { l.Segments[1].Base = 11 },
		"greatest Base":                         func(l *impl.Log) { l.Segments[2].Base = math.MaxInt },
		"least number as Base":                  func(l *impl.Log) { l.Segments[0].Base = math.MinInt },
		"Base not above the segment ahead":      func(l *impl.Log) { l.Segments[1].Base = 7 },
		"the last one's":                        func(l *impl.Log) { l.Segments[2].Base = 17 },
		"Base as that of the segment ahead":     func(l *impl.Log) { l.Segments[1].Base = 1 },
		"a batch over the end of the one ahead": func(l *impl.Log) { l.Segments[0].Batches[1].Base = 4 },
		"batches at one Base":                   func(l *impl.Log) { l.Segments[1].Batches[1].Base = 10 },
		"batches out of order":                  func(l *impl.Log) { s := l.Segments[1].Batches; s[0], s[1] = s[1], s[0] },
		"segments out of order":                 func(l *impl.Log) { l.Segments[0], l.Segments[1] = l.Segments[1], l.Segments[0] },
		"a batch over the next segment":         func(l *impl.Log) { l.Segments[0].Batches[1].Records = records(5) },
		"an Epoch that falls":                   func(l *impl.Log) { setEpochs(l, 0, 0, 5, 4, 5) },
		"one that falls over segments":          func(l *impl.Log) { setEpochs(l, 0, 5, 4, 5, 5) },
		"one below 0":                           func(l *impl.Log) { setEpochs(l, -1, 0, 0, 0, 0) },
		"one beyond":                            func(l *impl.Log) { setEpochs(l, 0, 0, 0, 0, impl.MaxEpoch+1) },
		"a first batch that is none":            func(l *impl.Log) { l.Segments[0].Batches[0].Producer = -2 },
		"a last batch that is none":             func(l *impl.Log) { l.Segments[2].Batches[0].Records[1].Time = -1 },
		"a batch without records":               func(l *impl.Log) { l.Segments[1].Batches[0].Records = nil },
		"a batch of too many records":           func(l *impl.Log) { l.Next, l.Segments[2].Batches[0].Records = 80, records(41) },
		"a batch of greatest Base":              func(l *impl.Log) { l.Segments[2].Batches[0].Base = math.MaxInt },
		"a batch below 0":                       func(l *impl.Log) { l.Segments[0].Batches[0].Base, l.Segments[0].Base = -2, -2 },
		"a segment without batches first":       func(l *impl.Log) { l.Segments[0].Batches = nil },
		"one in the midst":                      func(l *impl.Log) { l.Segments[1].Batches = []impl.Batch{} },
		"two at the end":                        func(l *impl.Log) { *l = withEmpty(withEmpty(*l, 24), 25) },
		"two alone":                             func(l *impl.Log) { l.Segments = []impl.Segment{{Base: 4}, {Base: 5}} },
		"one at the end beyond Next":            func(l *impl.Log) { *l = withEmpty(*l, 31) },
		"one at the end, not above":             func(l *impl.Log) { *l = withEmpty(*l, 23) },
		"one alone beyond Next":                 func(l *impl.Log) { l.Segments = []impl.Segment{{Base: 31}} },
		"one alone below 0":                     func(l *impl.Log) { l.Segments = []impl.Segment{{Base: -1}} },
		"too many segments":                     func(l *impl.Log) { *l = ladder(61, 1) },
		"too many, the last without batches":    func(l *impl.Log) { *l = withEmpty(ladder(60, 1), 60) },
		"too many batches in one segment":       func(l *impl.Log) { *l = ladder(1, 401) },
		"too many batches in all": func(l *impl.Log) {
			*l = ladder(40, 10)
			l.Next++
			l.Segments[39].Batches = append(l.Segments[39].Batches, bare(400, 1))
		},
		"an offset at Next, the most": func(l *impl.Log) { l.Next, l.Segments[2].Batches[0].Base = impl.MaxOffset, impl.MaxOffset-1 },
	}
}

// What is not right is refused by every function that takes a log, with the fixed answer of each.
func TestWhatIsNotALogIsRefused(t *testing.T) {
	for name, do := range badLogs() {
		l := gappy()
		do(&l)
		if logOkAsTold(l) || impl.LogOk(l) {
			t.Errorf("taken: %s", name)
		}
		mustRefuseLog(t, name, l)
	}
}

func mustRefuseLog(t *testing.T, name string, l impl.Log) {
	t.Helper()
	for _, b := range []impl.Batch{bare(0, 1), {}, bare(l.Next, 1)} {
		if x, code := impl.Append(l, b); code != impl.LogBad || !sameLog(x, impl.Log{}) {
			t.Errorf("Append, %s: %d", name, code)
		}
	}
	for _, from := range []int{l.Start, l.Next, 12, -1} {
		for _, number := range []int{0, 1000, -1} {
			if list, code := impl.ReadFrom(l, from, number); code != impl.LogBad || len(list) != 0 {
				t.Errorf("ReadFrom, %s: %d", name, code)
			}
			if x, ok := impl.Retain(l, number, from); ok || !sameLog(x, impl.Log{}) {
				t.Errorf("Retain, %s", name)
			}
		}
		if got := impl.OffsetAt(l, from); got != -1 {
			t.Errorf("OffsetAt, %s: %d", name, got)
		}
		if x, ok := impl.CutTo(l, from); ok || !sameLog(x, impl.Log{}) {
			t.Errorf("CutTo, %s", name)
		}
		if x, ok := impl.CutFrom(l, from); ok || !sameLog(x, impl.Log{}) {
			t.Errorf("CutFrom, %s", name)
		}
	}
}

func TestNewLog(t *testing.T) {
	for _, start := range []int{0, 1, 77, impl.MaxOffset - 1, impl.MaxOffset} {
		for _, roll := range []int{1, 2, 500, impl.MaxRoll} {
			l := impl.NewLog(start, roll)
			if !sameLog(l, impl.Log{Start: start, Next: start, Roll: roll}) || !impl.LogOk(l) {
				t.Errorf("NewLog(%d, %d) is %+v", start, roll, l)
			}
		}
		for _, roll := range []int{0, -1, impl.MaxRoll + 1, math.MaxInt, math.MinInt} {
			if l := impl.NewLog(start, roll); !sameLog(l, impl.Log{}) {
				t.Errorf("NewLog(%d, %d) is %+v", start, roll, l)
			}
		}
	}
	for _, start := range []int{-1, impl.MaxOffset + 1, math.MaxInt, math.MinInt} {
		if l := impl.NewLog(start, 1); !sameLog(l, impl.Log{}) {
			t.Errorf("NewLog(%d, 1) is %+v", start, l)
		}
	}
}

// randomLog is always right; gaps and Times are at random, and it may end with a segment without batches.
func randomLog(r *rand.Rand) impl.Log {
	l := impl.Log{Roll: pick(r, 1, 30, 60, 120, impl.MaxRoll)}
	free, epoch := pick(r, 0, 0, 3, r.Intn(1000)), 0
	gap := func() { free += pick(r, 0, 0, 1, r.Intn(6)) }
	for range pick(r, 0, 1, 2, 3, 5) {
		gap()
		s := impl.Segment{Base: free}
		for range 1 + r.Intn(4) {
			gap()
			epoch += pick(r, 0, 0, 1, 5)
			b := logBatch(r)
			b.Base, b.Epoch = free, epoch
			free += len(b.Records)
			s.Batches = append(s.Batches, b)
		}
		l.Segments = append(l.Segments, s)
	}
	gap()
	if r.Intn(4) == 0 {
		l.Segments = append(l.Segments, impl.Segment{Base: free})
	}
	gap()
	l.Next = free
	l.Start = pick(r, 0, l.Next, r.Intn(l.Next+1), r.Intn(l.Next+1))
	return l
}

// logBatch has few bytes and Times within a few, so that times to ask for part them.
func logBatch(r *rand.Rand) impl.Batch {
	b := smallBatch(r)
	for i := range b.Records {
		b.Records[i].Time = r.Intn(12)
	}
	return b
}

// spoilLog changes one thing of a log, mostly so that it is right no more.
func spoilLog(r *rand.Rand, l *impl.Log) {
	step := pick(r, -2, -1, 1, 2)
	s, b := somewhere(r, l)
	switch r.Intn(10) {
	case 0:
		l.Start = pick(r, -1, l.Next, l.Next+1, l.Start+step)
	case 1:
		l.Next = pick(r, l.Start-1, impl.MaxOffset, impl.MaxOffset+1, l.Next+step)
	case 2:
		l.Roll = pick(r, -1, 0, 1, impl.MaxRoll, impl.MaxRoll+1)
	case 3:
		s.Base += step
	case 4:
		b.Base += step
	case 5:
		b.Epoch += step
	case 6:
		b.Records = append(b.Records, impl.Record{})
	case 7:
		s.Batches = s.Batches[:r.Intn(len(s.Batches)+1)]
	case 8:
		l.Segments = append(l.Segments, impl.Segment{Base: l.Next + pick(r, -1, 0, 1)})
	case 9:
		spoil(r, b)
	}
}

// somewhere is a segment and a batch of a log, or new ones where there are none.
func somewhere(r *rand.Rand, l *impl.Log) (*impl.Segment, *impl.Batch) {
	none := bare(0, 1)
	if len(l.Segments) == 0 {
		return &impl.Segment{}, &none
	}
	s := &l.Segments[r.Intn(len(l.Segments))]
	if len(s.Batches) == 0 {
		return s, &none
	}
	return s, &s.Batches[r.Intn(len(s.Batches))]
}

func TestLogOkIsAsTold(t *testing.T) {
	r := rand.New(rand.NewSource(30))
	taken, refused := 0, 0
	for range 8000 {
		l := randomLog(r)
		if !logOkAsTold(l) || !impl.LogOk(l) {
			t.Fatalf("refused: %+v", l)
		}
		spoilLog(r, &l)
		want := logOkAsTold(l)
		if impl.LogOk(l) != want {
			t.Fatalf("LogOk is %v: %+v", !want, l)
		}
		if want {
			taken++
			continue
		}
		if refused++; refused%20 == 0 {
			mustRefuseLog(t, "at random", l)
		}
	}
	if taken < 800 || refused < 800 {
		t.Error("the logs to try are too much alike:", taken, refused)
	}
}
