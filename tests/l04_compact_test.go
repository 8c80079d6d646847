package tests

import (
	"math"
	"math/rand"
	"reflect"
	"slices"
	"strconv"
	"testing"

	"loop.example/g00035/impl"
)

func said(key string, time int) impl.Record {
	return impl.Record{Time: time, Keyed: true, Key: key, Value: "v" + strconv.Itoa(time)}
}

func gone(key string, time int) impl.Record {
	return impl.Record{Time: time, Keyed: true, Key: key, Gone: true}
}

func told(base int, list ...impl.Record) impl.Batch {
	return impl.Batch{Base: base, Producer: -1, Records: list}
}

// segmentsOf is a log from 0 on with a segment for each of these lists, that ends right behind them.
func segmentsOf(lists ...[]impl.Batch) impl.Log {
	l := impl.Log{Roll: 1000}
	for _, list := range lists {
		l.Segments = append(l.Segments, impl.Segment{Base: list[0].Base, Batches: list})
		last := list[len(list)-1]
		l.Next = last.Base + len(last.Records)
	}
	return l
}

func from(start int, l impl.Log) impl.Log {
	l.Start = start
	return l
}

// oneByOne has each record in a batch of its own, all in one segment.
func oneByOne(list ...impl.Record) impl.Log {
	batches := []impl.Batch{}
	for i, x := range list {
		batches = append(batches, told(i, x))
	}
	return segmentsOf(batches)
}

func together(list ...impl.Record) impl.Log {
	return segmentsOf([]impl.Batch{told(0, list...)})
}

// A line is a record, where it stands and of which batch it is.
type line struct {
	offset int
	record impl.Record
	batch  impl.Batch
}

func linesOf(l impl.Log) []line {
	list := []line{}
	for _, b := range allBatches(l) {
		for i, x := range plainLists(b).Records {
			list = append(list, line{b.Base + i, x, b})
		}
	}
	return list
}

func (x line) keyed() bool {
	return x.batch.Flags < 4 && x.record.Keyed
}

func offsetsOf(l impl.Log) []int {
	list := []int{}
	for _, x := range linesOf(l) {
		list = append(list, x.offset)
	}
	return list
}

func goesAsTold(l impl.Log, x line, to int, now int, keep int) bool {
	if x.offset >= to || !x.keyed() {
		return false
	}
	for _, y := range linesOf(l) {
		if y.offset > x.offset && y.offset < to && y.keyed() && y.record.Key == x.record.Key {
			return true
		}
	}
	return x.record.Gone && x.record.Time < now-keep
}

func mayCompact(l impl.Log, to int, now int, keep int) bool {
	times := now >= 0 && now <= 1000000000000 && keep >= 0 && keep <= 1000000000000
	return logOkAsTold(l) && to >= l.Start && to <= l.Next && times
}

func compactAsTold(l impl.Log, to int, now int, keep int) (impl.Log, bool) {
	if !mayCompact(l, to, now, keep) {
		return impl.Log{}, false
	}
	out := impl.Log{Start: l.Start, Next: l.Next, Roll: l.Roll}
	count := 0
	for _, s := range l.Segments {
		left := impl.Segment{Base: s.Base}
		for _, b := range s.Batches {
			ahead := -2
			for i, x := range b.Records {
				if goesAsTold(l, line{b.Base + i, x, b}, to, now, keep) {
					continue
				}
				if ahead != i-1 {
					run := b
					run.Base, run.Records = b.Base+i, nil
					if b.Producer >= 0 {
						run.Seq = b.Seq + i
					}
					left.Batches = append(left.Batches, run)
					count++
				}
				run := &left.Batches[len(left.Batches)-1]
				run.Records = append(run.Records, x)
				ahead = i
			}
		}
		if len(left.Batches) > 0 {
			out.Segments = append(out.Segments, left)
		}
	}
	if count > 400 {
		return impl.Log{}, false
	}
	return out, true
}

func dirtAsTold(l impl.Log, to int, now int, keep int) (int, int) {
	below, going := 0, 0
	if !mayCompact(l, to, now, keep) {
		return 0, 0
	}
	for _, x := range linesOf(l) {
		if x.offset < to {
			below++
		}
		if goesAsTold(l, x, to, now, keep) {
			going++
		}
	}
	return below, going
}

// mustLeave: what stays stands at these offsets, and Dirt counts what went.
func mustLeave(t *testing.T, name string, l impl.Log, to int, now int, keep int, want ...int) {
	t.Helper()
	x, ok := impl.Compact(l, to, now, keep)
	if !ok || !impl.LogOk(x) || !slices.Equal(offsetsOf(x), want) {
		t.Errorf("%s, to %d: %v %v, not %v", name, to, offsetsOf(x), ok, want)
	}
	below := 0
	for _, offset := range offsetsOf(l) {
		if offset < to {
			below++
		}
	}
	if a, b := impl.Dirt(l, to, now, keep); a != below || b != len(offsetsOf(l))-len(want) {
		t.Errorf("%s, to %d: Dirt %d %d", name, to, a, b)
	}
}

func TestKeyedRecordsWithALaterOneGo(t *testing.T) {
	mustLeave(t, "in the same batch", together(said("a", 1), said("b", 2), said("a", 3)), 3, 0, 0, 1, 2)
	mustLeave(t, "next to it", together(said("a", 1), said("a", 2)), 2, 0, 0, 1)
	mustLeave(t, "in another batch", oneByOne(said("a", 1), said("b", 2), said("a", 3)), 3, 0, 0, 1, 2)
	mustLeave(t, "in another segment", segmentsOf([]impl.Batch{told(0, said("a", 1))}, []impl.Batch{told(4, said("b", 2))}, []impl.Batch{told(9, said("a", 3))}), 10, 0, 0, 4, 9)
	mustLeave(t, "several times", together(said("a", 5), said("a", 5), said("a", 4), said("a", 3)), 4, 0, 0, 3)
	mustLeave(t, "none", together(said("a", 1), said("b", 1), said("c", 1)), 3, 0, 0, 0, 1, 2)
	mustLeave(t, "of an older Time", oneByOne(said("a", 9), said("a", 1)), 2, 0, 0, 1)
	mustLeave(t, "Keys that begin alike", oneByOne(said("a", 1), said("ab", 1), said("", 1), said("A", 1)), 4, 0, 0, 0, 1, 2, 3)
	mustLeave(t, "Keys of any bytes", oneByOne(said("\xff\x00", 1), said("\xff", 1), said("\xff\x00", 1)), 3, 0, 0, 1, 2)
	open := told(0, said("a", 1))
	open.Producer, open.Flags = 3, impl.FlagOpen
	mustLeave(t, "in a transaction", segmentsOf([]impl.Batch{open, told(1, said("a", 1))}), 2, 0, 0, 1)
	later := open
	later.Base = 2
	mustLeave(t, "a later one in a transaction", segmentsOf([]impl.Batch{told(0, said("a", 1)), later}), 3, 0, 0, 2)
}

// A later record counts only where it stands ahead of to itself.
func TestOnlyWhatIsAheadOfToCounts(t *testing.T) {
	for name, l := range map[string]impl.Log{
		"one batch":    together(said("a", 1), said("b", 2), said("a", 3), said("b", 4)),
		"many batches": oneByOne(said("a", 1), said("b", 2), said("a", 3), said("b", 4)),
	} {
		mustLeave(t, name, l, 0, 9, 0, 0, 1, 2, 3)
		mustLeave(t, name, l, 1, 9, 0, 0, 1, 2, 3)
		mustLeave(t, name, l, 2, 9, 0, 0, 1, 2, 3)
		mustLeave(t, name, l, 3, 9, 0, 1, 2, 3)
		mustLeave(t, name, l, 4, 9, 0, 2, 3)
	}
	// Two that are both at to or behind it stay both.
	mustLeave(t, "both behind", together(said("b", 1), said("a", 2), said("a", 3)), 1, 9, 0, 0, 1, 2)
	gaps := segmentsOf([]impl.Batch{told(2, said("a", 1)), told(8, said("a", 2))})
	for to := 0; to <= 8; to++ {
		mustLeave(t, "gaps", gaps, to, 9, 0, 2, 8)
	}
	mustLeave(t, "gaps", gaps, 9, 9, 0, 8)
	gaps.Next = 20
	mustLeave(t, "gaps ahead of Next", gaps, 20, 9, 0, 8)
}

func TestMarkersMakeNothingGo(t *testing.T) {
	for _, key := range []string{"commit", "abort"} {
		mark := func(base int) impl.Batch {
			b := marker(key)
			b.Base, b.Epoch = base, 0
			return b
		}
		one := segmentsOf([]impl.Batch{told(0, said(key, 1)), mark(1)})
		mustLeave(t, "a later marker", one, 2, 9, 0, 0, 1)
		two := segmentsOf([]impl.Batch{mark(0), told(1, said(key, 1)), mark(2), told(3, said(key, 2)), mark(4)})
		mustLeave(t, "markers between", two, 5, 9, 0, 0, 2, 3, 4)
		mustLeave(t, "markers alone", segmentsOf([]impl.Batch{mark(0), mark(1), mark(2)}), 3, impl.MaxTime, 0, 0, 1, 2)
		mustLeave(t, "a Gone one ahead", segmentsOf([]impl.Batch{told(0, gone(key, 5)), mark(1)}), 2, 5, 0, 0, 1)
	}
}

func TestRecordsWithoutKeyStay(t *testing.T) {
	none := impl.Record{Time: 1, Value: "v"}
	noneGone := impl.Record{Time: 1, Gone: true}
	for name, l := range map[string]impl.Log{
		"together":   together(none, none, said("", 1), noneGone, none, said("", 2), none, noneGone),
		"one by one": oneByOne(none, none, said("", 1), noneGone, none, said("", 2), none, noneGone),
	} {
		mustLeave(t, name, l, 8, impl.MaxTime, 0, 0, 1, 3, 4, 5, 6, 7)
		mustLeave(t, name, l, 5, impl.MaxTime, 0, 0, 1, 2, 3, 4, 5, 6, 7)
	}
}

// What is below Start goes and stays as all else does.
func TestRecordsBelowStart(t *testing.T) {
	l := from(2, together(said("a", 1), said("a", 2), said("b", 3), said("a", 4)))
	mustLeave(t, "at Start", l, 2, 9, 0, 1, 2, 3)
	mustLeave(t, "the later one behind", l, 3, 9, 0, 1, 2, 3)
	mustLeave(t, "the later one ahead", l, 4, 9, 0, 2, 3)
	old := from(2, together(gone("a", 1), gone("b", 1), said("c", 1)))
	mustLeave(t, "Gone ones", old, 2, 2, 0, 2)
	all := from(3, oneByOne(said("a", 1), said("b", 1), said("a", 1)))
	mustLeave(t, "all of them", all, 3, 9, 0, 1, 2)
}

func TestGoneRecordsGoByTheirTime(t *testing.T) {
	for _, times := range [][2]int{{20, 0}, {25, 5}, {impl.MaxTime, impl.MaxTime - 20}} {
		now, keep := times[0], times[1]
		l := together(gone("a", 19), gone("b", 20), gone("c", 21), said("d", 19))
		mustLeave(t, "just at it", l, 4, now, keep, 1, 2, 3)
		mustLeave(t, "one by one", oneByOne(l.Segments[0].Batches[0].Records...), 4, now, keep, 1, 2, 3)
		mustLeave(t, "not below to", l, 0, now, keep, 0, 1, 2, 3)
		mustLeave(t, "just below to", l, 1, now, keep, 1, 2, 3)
		mustLeave(t, "at to", together(said("d", 1), gone("a", 19)), 1, now, keep, 0, 1)
		mustLeave(t, "a young one with a later one", together(gone("a", 30), said("a", 31)), 2, now, keep, 1)
		mustLeave(t, "a young one with a later one at to", together(gone("a", 30), said("a", 31)), 1, now, keep, 0, 1)
		mustLeave(t, "an old one with a later one", together(gone("a", 3), said("a", 31)), 2, now, keep, 1)
		mustLeave(t, "an old one with a later one at to", together(gone("a", 3), said("a", 31)), 1, now, keep, 1)
		mustLeave(t, "the last one, young", together(said("a", 1), gone("a", 20)), 2, now, keep, 1)
		mustLeave(t, "the last one, old", together(said("a", 1), gone("a", 19)), 2, now, keep)
		mustLeave(t, "a young one, then an old one", together(gone("a", 40), gone("a", 19)), 2, now, keep)
		mustLeave(t, "an old one, then a young one", together(gone("a", 19), gone("a", 40)), 2, now, keep, 1)
	}
	early := together(gone("a", 0), gone("b", 1))
	mustLeave(t, "now at keep", early, 2, 5, 5, 0, 1)
	mustLeave(t, "now one above keep", early, 2, 6, 5, 1)
	mustLeave(t, "now below keep", early, 2, 4, 5, 0, 1)
	mustLeave(t, "now far below keep", early, 2, 0, impl.MaxTime, 0, 1)
	mustLeave(t, "the greatest now", together(gone("a", impl.MaxTime), gone("b", impl.MaxTime-1)), 2, impl.MaxTime, 0, 0)
}

// patterned has a record that goes for each x of a pattern, and makes them go by what stands behind.
func patterned(b impl.Batch, pattern string) (impl.Log, []impl.Batch) {
	runs := []impl.Batch{}
	for i, c := range pattern {
		x := impl.Record{Time: 3 * i, Keyed: true, Key: strconv.Itoa(i), Value: "v" + strconv.Itoa(i), Heads: heads(i % 4)}
		if c == 'x' {
			x.Key = "goes"
		}
		b.Records = append(b.Records, x)
		if c == 'x' {
			continue
		}
		if i == 0 || pattern[i-1] == 'x' {
			run := b
			run.Base, run.Records = b.Base+i, nil
			if b.Producer >= 0 {
				run.Seq += i
			}
			runs = append(runs, run)
		}
		run := &runs[len(runs)-1]
		run.Records = append(run.Records, x)
	}
	last := told(b.Base+len(pattern)+2, said("goes", 1))
	last.Epoch = b.Epoch
	return segmentsOf([]impl.Batch{b, last}), append(runs, last)
}

// Each longest run of neighbours that stay is a batch of its own, wherever what goes stands.
func TestRunsThatStay(t *testing.T) {
	kinds := []impl.Batch{
		{Base: 10, Epoch: 3, Producer: -1},
		{Base: 10, Epoch: 3, Producer: -1, Flags: impl.FlagSqueezed},
		{Base: 11, Epoch: 4, Producer: 0, Turn: 0, Seq: 0},
		{Base: 12, Epoch: impl.MaxEpoch, Producer: 9, Turn: 2, Seq: 70, Flags: impl.FlagSqueezed + impl.FlagOpen},
		{Base: impl.MaxOffset - 50, Epoch: 3, Producer: impl.MaxOffset, Turn: impl.MaxTurn, Seq: impl.MaxOffset - 6, Flags: impl.FlagOpen},
	}
	for mask := range 1 << 7 {
		pattern := ""
		for i := range 7 {
			pattern += string(".x"[mask>>i&1])
		}
		for _, b := range kinds {
			l, want := patterned(b, pattern)
			x, ok := impl.Compact(l, l.Next, 0, 0)
			if !ok || !impl.LogOk(x) || !slices.EqualFunc(allBatches(x), want, sameBatch) {
				t.Errorf("%s of %+v: %+v %v, not %+v", pattern, b, x, ok, want)
			}
			if len(x.Segments) != 1 || x.Segments[0].Base != b.Base || x.Start != 0 || x.Next != l.Next || x.Roll != l.Roll {
				t.Errorf("%s of %+v: %+v", pattern, b, x)
			}
		}
	}
}

func TestRunsOfMostRecords(t *testing.T) {
	pattern := ""
	for range impl.MaxRecords / 2 {
		pattern += ".x"
	}
	for _, pattern := range []string{pattern, "x" + pattern[:39], "x" + pattern[1:], pattern[:38] + "xx"} {
		b := impl.Batch{Base: 5, Epoch: 1, Producer: 4, Turn: 1, Seq: impl.MaxOffset - 39}
		l, want := patterned(b, pattern)
		x, ok := impl.Compact(l, l.Next, 0, 0)
		if !ok || !slices.EqualFunc(allBatches(x), want, sameBatch) {
			t.Errorf("%s: %+v %v, not %+v", pattern, x, ok, want)
		}
	}
}

// What stands at to and behind it stays in one run with what stays right ahead of it.
func TestABatchThatStraddlesTo(t *testing.T) {
	b := impl.Batch{Base: 3, Epoch: 1, Producer: 2, Turn: 1, Seq: 8, Records: []impl.Record{said("a", 1), said("a", 2), said("b", 3), said("b", 4), said("b", 5), said("a", 6)}}
	l := segmentsOf([]impl.Batch{b})
	run := func(begin int, end int) impl.Batch {
		x := b
		x.Base, x.Seq, x.Records = b.Base+begin, b.Seq+begin, b.Records[begin:end]
		return x
	}
	wants := map[int][]impl.Batch{
		0: {b}, 3: {b}, 4: {b},
		5: {run(1, 6)},
		6: {run(1, 6)},
		7: {run(1, 2), run(3, 6)},
		8: {run(1, 2), run(4, 6)},
		9: {run(4, 6)},
	}
	for to, want := range wants {
		x, ok := impl.Compact(l, to, 0, 0)
		if !ok || !slices.EqualFunc(allBatches(x), want, sameBatch) {
			t.Errorf("to %d: %+v %v, not %+v", to, x, ok, want)
		}
	}
}

// Batches stay in their segments, which keep their Base; those without batches go, the last one too.
func TestSegmentsThatStay(t *testing.T) {
	l := impl.Log{Start: 2, Next: 40, Roll: 77, Segments: []impl.Segment{
		{Base: 1, Batches: []impl.Batch{told(2, said("a", 1), said("b", 1)), told(6, said("c", 1))}},
		{Base: 10, Batches: []impl.Batch{told(12, said("a", 2), said("c", 2))}},
		{Base: 20, Batches: []impl.Batch{told(20, said("d", 1), said("a", 3), said("e", 1))}},
		{Base: 30, Batches: []impl.Batch{told(31, said("c", 3))}},
	}}
	want := impl.Log{Start: 2, Next: 40, Roll: 77, Segments: []impl.Segment{
		{Base: 1, Batches: []impl.Batch{told(3, said("b", 1))}},
		{Base: 20, Batches: []impl.Batch{told(20, said("d", 1), said("a", 3), said("e", 1))}},
		{Base: 30, Batches: []impl.Batch{told(31, said("c", 3))}},
	}}
	for _, base := range []int{-1, 32, 35, 40} {
		x := l
		if base >= 0 {
			x = withEmpty(l, base)
		}
		if got, ok := impl.Compact(x, 40, 0, 0); !ok || !sameLog(got, want) {
			t.Errorf("with an empty one at %d: %+v %v", base, got, ok)
		}
	}
	if got, ok := impl.Compact(withEmpty(l, 40), 2, 0, 0); !ok || !sameLog(got, l) {
		t.Errorf("nothing goes but the last one: %+v %v", got, ok)
	}
	last := from(1, segmentsOf([]impl.Batch{told(0, said("a", 1))}, []impl.Batch{told(1, gone("a", 2), gone("b", 2))}))
	if got, ok := impl.Compact(last, 3, 3, 0); !ok || !sameLog(got, impl.Log{Start: 1, Next: 3, Roll: 1000}) {
		t.Errorf("all of them: %+v %v", got, ok)
	}
	if got, ok := impl.Compact(impl.Log{Start: 1, Next: 9, Roll: 3, Segments: []impl.Segment{{Base: 4}}}, 5, 0, 0); !ok || !sameLog(got, impl.Log{Start: 1, Next: 9, Roll: 3}) {
		t.Errorf("one without batches alone: %+v %v", got, ok)
	}
	if got, ok := impl.Compact(impl.NewLog(7, 3), 7, 0, 0); !ok || !sameLog(got, impl.NewLog(7, 3)) {
		t.Errorf("no segments: %+v %v", got, ok)
	}
}

// What is appended to a compacted log stands at its Next, in a new segment where none is left.
func TestACompactedLogGoesOn(t *testing.T) {
	l := from(1, segmentsOf([]impl.Batch{told(0, said("a", 1))}, []impl.Batch{told(1, gone("a", 2))}))
	x, _ := impl.Compact(l, 2, 3, 0)
	x = mustAppend(t, x, told(0, said("z", 5)))
	if !sameLog(x, impl.Log{Start: 1, Next: 3, Roll: 1000, Segments: []impl.Segment{{Base: 2, Batches: []impl.Batch{told(2, said("z", 5))}}}}) {
		t.Errorf("%+v", x)
	}
}

// split has so many batches, of which each of the first ones becomes two.
func split(batches int, doubled int) impl.Log {
	l := impl.Log{Roll: impl.MaxRoll}
	for i := range batches {
		b := told(l.Next, said("s"+strconv.Itoa(i), 1))
		if i < doubled {
			b.Records = append(b.Records, said("x", 1), said("t"+strconv.Itoa(i), 1))
		}
		if i == batches-1 {
			b.Records = append(b.Records, said("x", 1))
		}
		if i%50 == 0 {
			l.Segments = append(l.Segments, impl.Segment{Base: l.Next})
		}
		s := &l.Segments[len(l.Segments)-1]
		s.Batches = append(s.Batches, b)
		l.Next += len(b.Records)
	}
	return l
}

func TestCompactToMostBatches(t *testing.T) {
	for _, c := range [][2]int{{399, 1}, {398, 2}, {400, 0}, {250, 150}, {201, 199}} {
		l := split(c[0], c[1])
		x, ok := impl.Compact(l, l.Next, 0, 0)
		if !ok || !impl.LogOk(x) || len(allBatches(x)) != impl.MaxLog {
			t.Errorf("%v: %d %v", c, len(allBatches(x)), ok)
		}
	}
	for _, c := range [][2]int{{400, 1}, {399, 2}, {250, 151}, {201, 200}, {400, 399}} {
		l := split(c[0], c[1])
		if x, ok := impl.Compact(l, l.Next, 0, 0); ok || !sameLog(x, impl.Log{}) {
			t.Errorf("%v: %d %v", c, len(allBatches(x)), ok)
		}
		if a, b := impl.Dirt(l, l.Next, 0, 0); a != len(offsetsOf(l)) || b != c[1] {
			t.Errorf("%v: Dirt %d %d", c, a, b)
		}
	}
	// Where one goes, another may become two; and ahead of to alone is counted.
	l := split(400, 1)
	l.Segments[0].Batches[1].Records[0].Key = "x"
	if x, ok := impl.Compact(l, l.Next, 0, 0); !ok || len(allBatches(x)) != impl.MaxLog {
		t.Errorf("one goes: %d %v", len(allBatches(x)), ok)
	}
	l = split(400, 1)
	if x, ok := impl.Compact(l, l.Next-1, 0, 0); !ok || !sameLog(x, l) {
		t.Errorf("to ahead of the later one: %v", ok)
	}
}

func mustNotCompact(t *testing.T, name string, l impl.Log, to int, now int, keep int) {
	t.Helper()
	if x, ok := impl.Compact(l, to, now, keep); ok || !sameLog(x, impl.Log{}) {
		t.Errorf("Compact, %s: %+v %v", name, x, ok)
	}
	if a, b := impl.Dirt(l, to, now, keep); a != 0 || b != 0 {
		t.Errorf("Dirt, %s: %d %d", name, a, b)
	}
}

func TestCompactRefuses(t *testing.T) {
	l := from(2, together(said("a", 1), gone("b", 1), said("a", 2), said("a", 3), said("c", 3)))
	l.Next = 8
	for _, to := range []int{2, 3, 7, 8} {
		if _, ok := impl.Compact(l, to, 0, 0); !ok {
			t.Errorf("to %d was refused", to)
		}
	}
	if a, b := impl.Dirt(l, 8, impl.MaxTime, impl.MaxTime); a != 5 || b != 2 {
		t.Errorf("Dirt %d %d", a, b)
	}
	for _, to := range []int{1, 0, -1, math.MinInt, 9, 10, impl.MaxOffset, impl.MaxOffset + 1, math.MaxInt} {
		mustNotCompact(t, "to "+strconv.Itoa(to), l, to, 5, 0)
	}
	for _, time := range []int{0, 1, impl.MaxTime - 1, impl.MaxTime} {
		for _, other := range []int{0, impl.MaxTime} {
			if _, ok := impl.Compact(l, 5, time, other); !ok {
				t.Errorf("now %d, keep %d was refused", time, other)
			}
			if a, _ := impl.Dirt(l, 5, other, time); a != 5 {
				t.Errorf("now %d, keep %d was refused by Dirt", other, time)
			}
		}
	}
	for _, time := range []int{-1, math.MinInt, impl.MaxTime + 1, math.MaxInt} {
		mustNotCompact(t, "now "+strconv.Itoa(time), l, 5, time, 0)
		mustNotCompact(t, "keep "+strconv.Itoa(time), l, 5, 0, time)
		mustNotCompact(t, "both "+strconv.Itoa(time), l, 5, time, time)
	}
	for name, do := range badLogs() {
		l := gappy()
		do(&l)
		for _, to := range []int{l.Start, l.Next, 12} {
			mustNotCompact(t, name, l, to, 5, 0)
		}
	}
}

func TestDirtCountsWhatIsBelowTo(t *testing.T) {
	l := gappy()
	for to := 3; to <= 30; to++ {
		want := len(spots(allBatches(l), 0, to-1))
		if a, b := impl.Dirt(l, to, impl.MaxTime, 0); a != want || b != 0 {
			t.Errorf("to %d: %d %d, not %d 0", to, a, b, want)
		}
	}
	if a, b := impl.Dirt(impl.NewLog(5, 1), 5, 0, 0); a != 0 || b != 0 {
		t.Errorf("no segments: %d %d", a, b)
	}
}

// keyLog is a right log of few Keys and Times, with producers, transactions and markers, so that much of it goes.
func keyLog(r *rand.Rand) impl.Log {
	l := randomLog(r)
	free := 0
	if len(l.Segments) > 0 {
		free = l.Segments[0].Base
	}
	for i := range l.Segments {
		s := &l.Segments[i]
		free += r.Intn(3)
		s.Base = free
		for j := range s.Batches {
			free += pick(r, 0, 0, 1, 3)
			b := &s.Batches[j]
			if b.Flags < impl.FlagMark {
				b.Records = keyRecords(r, 1+r.Intn(7))
				b.Seq = min(b.Seq, impl.MaxOffset-10)
			}
			b.Base = free
			free += len(b.Records)
		}
	}
	l.Next = free + r.Intn(3)
	l.Start = pick(r, 0, r.Intn(l.Next+1))
	return l
}

func keyRecords(r *rand.Rand, count int) []impl.Record {
	list := []impl.Record{}
	for range count {
		x := impl.Record{Time: r.Intn(12), Heads: heads(pick(r, 0, 0, 1, 3))}
		if r.Intn(6) > 0 {
			x.Keyed, x.Key = true, pick(r, "", "a", "ab", "b", "\x80", "\xff", "commit", "abort")
		}
		if x.Gone = r.Intn(4) == 0; !x.Gone {
			x.Value = pick(r, "", "1", "2", "3", "\xfe")
		}
		list = append(list, x)
	}
	return list
}

func TestCompactIsAsTold(t *testing.T) {
	r := rand.New(rand.NewSource(50))
	went, stayed, refused := 0, 0, 0
	for range 3000 {
		l := keyLog(r)
		to := pick(r, l.Start, l.Next, l.Start+r.Intn(l.Next-l.Start+1))
		now, keep := r.Intn(20), r.Intn(12)
		switch r.Intn(8) {
		case 0:
			spoilLog(r, &l)
		case 1:
			to = pick(r, l.Start-1, l.Next+1, -1)
		case 2:
			now, keep = pick(r, now, -1, impl.MaxTime+1, impl.MaxTime), pick(r, keep, -1, impl.MaxTime+1, impl.MaxTime)
		}
		x, ok := impl.Compact(l, to, now, keep)
		want, wantOk := compactAsTold(l, to, now, keep)
		if ok != wantOk || !sameLog(x, want) {
			t.Fatalf("to %d, %d, %d: %+v %v, not %+v %v: %+v", to, now, keep, x, ok, want, wantOk, l)
		}
		below, going := impl.Dirt(l, to, now, keep)
		if wantBelow, wantGoing := dirtAsTold(l, to, now, keep); below != wantBelow || going != wantGoing {
			t.Fatalf("to %d, %d, %d: %d %d, not %d %d: %+v", to, now, keep, below, going, wantBelow, wantGoing, l)
		}
		if !ok {
			refused++
			continue
		}
		went, stayed = went+going, stayed+len(offsetsOf(x))
	}
	if went < 3000 || stayed < 3000 || refused < 300 {
		t.Error("the logs to try are too much alike:", went, stayed, refused)
	}
}

// mustStandAsBefore: each record that is left is as it was, in a batch as its own was, and has the number that it had.
func mustStandAsBefore(t *testing.T, now []line, before map[int]line) {
	t.Helper()
	for _, y := range now {
		was, ok := before[y.offset]
		if !ok || !reflect.DeepEqual(y.record, was.record) {
			t.Fatalf("at %d stands %+v, not %+v", y.offset, y.record, was.record)
		}
		a, b := y.batch, was.batch
		if a.Epoch != b.Epoch || a.Producer != b.Producer || a.Turn != b.Turn || a.Flags != b.Flags {
			t.Fatalf("at %d a batch %+v, not %+v", y.offset, a, b)
		}
		if b.Producer >= 0 && a.Seq-a.Base != b.Seq-b.Base || b.Producer < 0 && a.Seq != 0 {
			t.Fatalf("at %d Seq is %d, from %d", y.offset, a.Seq, b.Seq)
		}
	}
}

// Promise 7: a compacted log says of each key what it said, what stays stands where it stood, and compacted again nothing more goes.
func TestLogsCompactedAtEachOffset(t *testing.T) {
	r := rand.New(rand.NewSource(51))
	logs := append(logsToCut(r, 20), from(400, manyRecords()), from(200, split(200, 30)))
	for range 300 {
		logs = append(logs, keyLog(r))
	}
	for _, l := range logs {
		view, before := impl.View(l), map[int]line{}
		for _, y := range linesOf(l) {
			before[y.offset] = y
		}
		now, keep := pick(r, 0, 12, r.Intn(20)), pick(r, 0, 12, r.Intn(8))
		for to := l.Start; to <= l.Next; to++ {
			x, ok := impl.Compact(l, to, now, keep)
			if !ok || !impl.LogOk(x) || x.Start != l.Start || x.Next != l.Next || x.Roll != l.Roll {
				t.Fatalf("to %d: %+v %v of %+v", to, x, ok, l)
			}
			if got := impl.View(x); !slices.Equal(got, view) {
				t.Fatalf("to %d: says %+v, not %+v: %+v", to, got, view, l)
			}
			left := linesOf(x)
			mustStandAsBefore(t, left, before)
			below, going := impl.Dirt(l, to, now, keep)
			if went := len(before) - len(left); going != went {
				t.Fatalf("to %d: %d went, not %d: %+v", to, went, going, l)
			}
			if again, ok := impl.Compact(x, to, now, keep); !ok || !sameLog(again, x) {
				t.Fatalf("to %d again: %+v %v, not %+v", to, again, ok, x)
			}
			if a, b := impl.Dirt(x, to, now, keep); a != below-going || b != 0 {
				t.Fatalf("to %d again: Dirt %d %d behind %d %d", to, a, b, below, going)
			}
		}
	}
}
