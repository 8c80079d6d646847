package tests

import (
	"math"
	"math/rand"
	"reflect"
	"slices"
	"testing"

	"loop.example/g00035/impl"
)

func visibleAsTold(l impl.Log, place int, settled bool) ([]impl.Read, int) {
	list := []impl.Read{}
	if !logOkAsTold(l) || place < l.Start || place > l.Next {
		return list, -1
	}
	next := l.Next
	if settled {
		next = stableAsTold(l)
	}
	gone := abortedAsTold(l)
	for _, x := range linesOf(l) {
		seen := x.batch.Flags&4 == 0 && x.offset >= place && x.offset < next
		for _, g := range gone {
			if settled && x.batch.Flags&2 != 0 && g.Producer == x.batch.Producer && x.offset >= g.First && x.offset <= g.Last {
				seen = false
			}
		}
		if seen {
			list = append(list, impl.Read{Offset: x.offset, Record: x.record})
		}
	}
	return list, max(next, place)
}

func plainReads(list []impl.Read) []impl.Read {
	out := []impl.Read{}
	for _, x := range list {
		x.Record = plainLists(impl.Batch{Records: []impl.Record{x.Record}}).Records[0]
		out = append(out, x)
	}
	return out
}

func sameReads(a []impl.Read, b []impl.Read) bool {
	return reflect.DeepEqual(plainReads(a), plainReads(b))
}

func mustSeeNothing(t *testing.T, name string, l impl.Log, place int) {
	t.Helper()
	for _, settled := range []bool{false, true} {
		if list, next := impl.Visible(l, place, settled); len(list) != 0 || next != -1 {
			t.Errorf("%s: from %d: %+v, %d", name, place, list, next)
		}
	}
}

// mustSee: the offsets that are seen, each with the record that stands there.
func mustSee(t *testing.T, name string, l impl.Log, place int, settled bool, next int, offsets ...int) {
	t.Helper()
	list, goesOn := impl.Visible(l, place, settled)
	got := []int{}
	for _, x := range list {
		got = append(got, x.Offset)
	}
	if goesOn != next || !slices.Equal(got, offsets) {
		t.Errorf("%s: from %d: %v and %d, not %v and %d", name, place, got, goesOn, offsets, next)
		return
	}
	at := map[int]impl.Record{}
	for _, x := range linesOf(l) {
		at[x.offset] = x.record
	}
	for _, x := range plainReads(list) {
		if !reflect.DeepEqual(x.Record, at[x.Offset]) {
			t.Errorf("%s: at %d: %+v", name, x.Offset, x.Record)
		}
	}
}

// valued puts other Values, Times and Heads into a log's records, so that each is known by what it has.
func valued(l impl.Log) impl.Log {
	l = plainLog(l)
	for i, s := range l.Segments {
		for j, b := range s.Batches {
			for k := range b.Records {
				if b.Flags&4 != 0 {
					continue
				}
				place := b.Base + k
				l.Segments[i].Batches[j].Records[k] = impl.Record{Time: 1000 - place, Keyed: place%2 == 0, Value: long(place % 90), Heads: heads(place % 4)}
			}
		}
	}
	return l
}

func numbersFrom(first int, last int) []int {
	list := []int{}
	for n := first; n <= last; n++ {
		list = append(list, n)
	}
	return list
}

func TestVisibleFromEachOffset(t *testing.T) {
	l := valued(gappy())
	all := offsetsOf(l)
	for place := l.Start; place <= l.Next; place++ {
		want := slices.DeleteFunc(slices.Clone(all), func(n int) bool { return n < place })
		mustSee(t, "all", l, place, false, 30, want...)
		mustSee(t, "settled", l, place, true, 30, want...)
	}
	for _, place := range []int{2, 0, -1, 31, impl.MaxOffset, math.MaxInt, math.MinInt} {
		mustSeeNothing(t, "beyond the ends", l, place)
	}
	for _, l := range []impl.Log{impl.NewLog(7, 1), withEmpty(impl.NewLog(7, 1), 5)} {
		mustSee(t, "no batches", l, 7, false, 7)
		mustSee(t, "no batches, settled", l, 7, true, 7)
		mustSeeNothing(t, "no batches, one ahead", l, 6)
		mustSeeNothing(t, "no batches, one beyond", l, 8)
	}
	mustSee(t, "the last offset", impl.NewLog(impl.MaxOffset, 1), impl.MaxOffset, true, impl.MaxOffset)
	mustSeeNothing(t, "the zero value", impl.Log{}, 0)
}

func TestVisibleWithATransactionUnderWay(t *testing.T) {
	l := valued(journal(bare(0, 1, 2, 3), part(3, 2), bare(0, 1, 2), part(3, 3)))
	for place := range 11 {
		mustSee(t, "all", l, place, false, 10, numbersFrom(place, 9)...)
		mustSee(t, "settled", l, place, true, max(place, 3), numbersFrom(place, 2)...)
	}
	l.Start = 4
	mustSeeNothing(t, "ahead of Start", l, 3)
	for place := 4; place < 11; place++ {
		mustSee(t, "Stable below Start", l, place, true, place)
	}
	first := valued(journal(part(3, 2), bare(0, 1)))
	mustSee(t, "open from the first batch on", first, 0, true, 0)
	mustSee(t, "from within it", first, 1, true, 1)
	mustSee(t, "all of it", first, 1, false, 3, 1, 2)
}

func TestVisibleOfWhatWasAborted(t *testing.T) {
	list := []impl.Batch{bare(0, 1), part(3, 2), part(4, 2), sentBy(3, 0, 2, 2), bare(0, 5, 6), part(3, 2), markOf(3, 0), part(3, 2), commitOf(3, 0), markOf(4, 0)}
	l := valued(journal(list...))
	for place := range 17 {
		at := func(offsets ...int) []int {
			return slices.DeleteFunc(offsets, func(n int) bool { return n < place })
		}
		mustSee(t, "all", l, place, false, 16, at(0, 1, 2, 3, 4, 5, 6, 7, 8, 9, 10, 12, 13)...)
		mustSee(t, "settled", l, place, true, 16, at(0, 5, 6, 7, 8, 12, 13)...)
	}
	x := valued(journal(list[:9]...))
	mustSee(t, "another is open still", x, 0, true, 3, 0)
	mustSee(t, "from behind its first", x, 4, true, 4)
	again := valued(journal(part(3, 2), commitOf(3, 0), part(3, 2), markOf(3, 0), part(3, 2), commitOf(3, 0)))
	mustSee(t, "those around it are seen", again, 0, true, 9, 0, 1, 6, 7)
	mustSee(t, "from its marker on", again, 5, true, 9, 6, 7)
	mustSee(t, "from within", again, 4, true, 9, 6, 7)
	mustSee(t, "all of them", again, 0, false, 9, 0, 1, 3, 4, 6, 7)
	low := from(2, valued(journal(part(3, 4), bare(0, 1), markOf(3, 0))))
	mustSee(t, "begun below Start", low, 2, true, 6, 4)
	mustSee(t, "all of that", low, 2, false, 6, 2, 3, 4)
}

// What lies in a transaction's offsets is not of it for that: it must be open, and that producer's.
func TestVisibleBetweenFirstAndLast(t *testing.T) {
	other := part(4, 2)
	other.Turn = 3
	own := part(3, 2)
	own.Turn = 3
	l := valued(journal(part(3, 1), other, sentBy(3, 0, 0, 2), bare(0, 1), squeezed(own), commitOf(4, 0), markOf(3, 9), sentBy(3, 0, 0, 1)))
	mustSee(t, "settled", l, 0, true, 11, 1, 2, 3, 4, 5, 10)
	mustSee(t, "all", l, 0, false, 11, 0, 1, 2, 3, 4, 5, 6, 7, 10)
}

func TestMarkersAreNeverSeen(t *testing.T) {
	l := journal(markOf(3, 0), commitOf(3, 0), squeezed(markOf(4, 2)), squeezed(commitOf(4, 2)))
	for place := range 5 {
		mustSee(t, "all", l, place, false, 4)
		mustSee(t, "settled", l, place, true, 4)
	}
	key := impl.Batch{Producer: 3, Flags: 2, Records: []impl.Record{{Keyed: true, Key: "abort"}, {Keyed: true, Key: "commit"}}}
	x := journal(key, commitOf(3, 0))
	mustSee(t, "records with such keys are", x, 0, true, 3, 0, 1)
}

func TestVisibleIsAsTold(t *testing.T) {
	r := rand.New(rand.NewSource(94))
	settledCount, hidden, refused := 0, 0, 0
	for range 4000 {
		l := valued(dealLog(r))
		if r.Intn(12) == 0 {
			spoilLog(r, &l)
		}
		for _, place := range []int{l.Start, l.Next, l.Start - 1, l.Next + 1, l.Start + r.Intn(20), l.Start + r.Intn(20)} {
			for _, settled := range []bool{false, true} {
				list, next := impl.Visible(l, place, settled)
				want, wantNext := visibleAsTold(l, place, settled)
				if next != wantNext || !sameReads(list, want) {
					t.Fatalf("from %d, %v: %+v %d, not %+v %d: %+v", place, settled, list, next, want, wantNext, l)
				}
				if settled {
					settledCount += len(list)
					hidden -= len(list)
				} else {
					hidden += len(list)
				}
				if next < 0 {
					refused++
				}
			}
		}
	}
	if settledCount < 15000 || hidden < 20000 || refused < 5000 {
		t.Error("the logs to try are too much alike:", settledCount, hidden, refused)
	}
}

// What is seen from an offset on is the end of what is seen from Start on; who is not settled misses nothing of it.
func TestVisibleFromFurtherOnIsTheEnd(t *testing.T) {
	r := rand.New(rand.NewSource(95))
	for range 1500 {
		l := valued(dealLog(r))
		for _, settled := range []bool{false, true} {
			all, _ := impl.Visible(l, l.Start, settled)
			for place := l.Start; place <= l.Next; place++ {
				want := slices.DeleteFunc(slices.Clone(all), func(x impl.Read) bool { return x.Offset < place })
				list, next := impl.Visible(l, place, settled)
				if !sameReads(list, want) || next < place || next > l.Next {
					t.Fatalf("from %d, %v: %+v and %d: %+v", place, settled, list, next, l)
				}
			}
		}
	}
}
