package tests

import (
	"bytes"
	"math/rand"
	"reflect"
	"slices"
	"testing"

	"loop.example/g00035/impl"
)

func viewAsTold(l impl.Log) []impl.Pair {
	list := []impl.Pair{}
	if !logOkAsTold(l) {
		return list
	}
	known := map[string]bool{}
	for _, x := range slices.Backward(linesOf(l)) {
		if x.offset < l.Start || !x.keyed() || known[x.record.Key] {
			continue
		}
		known[x.record.Key] = true
		if !x.record.Gone {
			list = append(list, impl.Pair{Key: x.record.Key, Value: x.record.Value})
		}
	}
	slices.SortFunc(list, func(a, b impl.Pair) int { return bytes.Compare([]byte(a.Key), []byte(b.Key)) })
	return list
}

// mustSay takes Keys and Values by turns.
func mustSay(t *testing.T, name string, l impl.Log, texts ...string) {
	t.Helper()
	want := []impl.Pair{}
	for i := 0; i < len(texts); i += 2 {
		want = append(want, impl.Pair{Key: texts[i], Value: texts[i+1]})
	}
	if got := impl.View(l); !slices.Equal(got, want) {
		t.Errorf("%s: %q, not %q", name, got, want)
	}
}

func TestView(t *testing.T) {
	mustSay(t, "the last counts", together(said("a", 1), said("b", 2), said("a", 3)), "a", "v3", "b", "v2")
	mustSay(t, "whatever its Time", together(said("a", 9), said("a", 3)), "a", "v3")
	mustSay(t, "in another batch", oneByOne(said("a", 1), said("a", 3)), "a", "v3")
	mustSay(t, "in another segment", segmentsOf([]impl.Batch{told(2, said("a", 1), said("c", 1))}, []impl.Batch{told(8, said("a", 2))}), "a", "v2", "c", "v1")
	mustSay(t, "an empty Value", together(said("a", 1), impl.Record{Keyed: true, Key: "a"}), "a", "")
	mustSay(t, "a Gone one last", together(said("a", 1), said("b", 1), gone("a", 2)), "b", "v1")
	mustSay(t, "a Gone one first", together(gone("a", 1), said("a", 2)), "a", "v2")
	mustSay(t, "a Gone one between", together(said("a", 1), gone("a", 2), said("a", 3)), "a", "v3")
	mustSay(t, "Gone alone", together(gone("a", 1), gone("b", 2)))
	mustSay(t, "without a Key", together(impl.Record{Value: "x"}, impl.Record{Gone: true}))
	mustSay(t, "an empty Key and none", together(said("", 1), impl.Record{Value: "x"}, impl.Record{Gone: true}), "", "v1")
	mustSay(t, "no segments", impl.NewLog(3, 5))
	mustSay(t, "no batches", impl.Log{Next: 9, Roll: 1, Segments: []impl.Segment{{Base: 4}}})
	mustSay(t, "a last segment without", withEmpty(together(said("a", 1)), 1), "a", "v1")
	open := told(1, said("a", 2))
	open.Producer, open.Flags = 3, impl.FlagOpen+impl.FlagSqueezed
	mustSay(t, "in a transaction", segmentsOf([]impl.Batch{told(0, said("a", 1)), open}), "a", "v2")
}

func TestViewIsInOrderOfBytes(t *testing.T) {
	keys := []string{"", "\x00", "\x00\x00", "A", "a", "a\x00", "aa", "ab", "b", "ba", "z", "\x7f", "\x80", "\xc3\xa9", "\xfe", "\xff", "\xff\xff"}
	want := []string{}
	list := []impl.Record{}
	for i, key := range keys {
		want = append(want, key, said(key, i).Value)
		list = append(list, said(key, i))
	}
	mustSay(t, "in order", together(list...), want...)
	slices.Reverse(list)
	mustSay(t, "from behind", oneByOne(list...), want...)
	rand.New(rand.NewSource(52)).Shuffle(len(list), func(i, j int) { list[i], list[j] = list[j], list[i] })
	mustSay(t, "at random", together(list...), want...)
	mustSay(t, "long ones", together(said(long(100), 1), said(long(99), 2)), long(99), "v2", long(100), "v1")
}

func TestViewFromStartOn(t *testing.T) {
	list := []impl.Record{said("a", 1), said("b", 2), gone("a", 3), said("a", 4)}
	for _, l := range []impl.Log{together(list...), oneByOne(list...)} {
		mustSay(t, "all", l, "a", "v4", "b", "v2")
		mustSay(t, "one below", from(1, l), "a", "v4", "b", "v2")
		mustSay(t, "two below", from(2, l), "a", "v4")
		mustSay(t, "the last alone", from(3, l), "a", "v4")
		mustSay(t, "all below", from(4, l))
	}
	mustSay(t, "Gone below Start", from(1, together(gone("a", 1), said("b", 1))), "b", "v1")
	mustSay(t, "Gone from Start on", from(1, together(said("a", 1), gone("a", 1))))
}

// Markers say nothing, neither of a Key of their own nor of one that a record has.
func TestViewKnowsNoMarkers(t *testing.T) {
	mark := markerAt(1)
	mustSay(t, "alone", segmentsOf([]impl.Batch{mark}))
	mustSay(t, "behind", segmentsOf([]impl.Batch{told(0, said("abort", 1)), mark}), "abort", "v1")
	mustSay(t, "ahead", segmentsOf([]impl.Batch{mark, told(2, said("abort", 1))}), "abort", "v1")
	mustSay(t, "behind a Gone one", segmentsOf([]impl.Batch{told(0, gone("abort", 1)), mark}))
}

func TestViewIsAsTold(t *testing.T) {
	r := rand.New(rand.NewSource(53))
	pairs := 0
	for range 4000 {
		l := keyLog(r)
		if r.Intn(6) == 0 {
			spoilLog(r, &l)
		}
		got := impl.View(l)
		if want := viewAsTold(l); !slices.Equal(got, want) {
			t.Fatalf("%q, not %q: %+v", got, want, l)
		}
		pairs += len(got)
	}
	if pairs < 4000 {
		t.Error("the logs to try say too little:", pairs)
	}
}

func TestViewAndJoinRefuse(t *testing.T) {
	for name, do := range badLogs() {
		l := gappy()
		do(&l)
		for _, b := range allBatches(l) {
			for i := range b.Records {
				b.Records[i].Keyed, b.Records[i].Value = true, "v"
			}
		}
		if got := impl.View(l); len(got) != 0 {
			t.Errorf("View, %s: %+v", name, got)
		}
		if got := impl.Join(l); !sameLog(got, impl.Log{}) {
			t.Errorf("Join, %s: %+v", name, got)
		}
	}
}

func joinAsTold(l impl.Log) impl.Log {
	if !logOkAsTold(l) {
		return impl.Log{}
	}
	out := plainLog(l)
	for i := 0; i < len(out.Segments); i++ {
		for i+1 < len(out.Segments) {
			both := slices.Concat(out.Segments[i].Batches, out.Segments[i+1].Batches)
			if sizesAsTold(both) > l.Roll {
				break
			}
			out.Segments[i].Batches = both
			out.Segments = slices.Delete(out.Segments, i+1, i+2)
		}
	}
	return out
}

// mustJoin: the segments that are left have so many batches each, at these Bases.
func mustJoin(t *testing.T, name string, l impl.Log, counts []int, bases []int) {
	t.Helper()
	x := impl.Join(l)
	gotCounts, gotBases := []int{}, []int{}
	for _, s := range x.Segments {
		gotCounts, gotBases = append(gotCounts, len(s.Batches)), append(gotBases, s.Base)
	}
	if !slices.Equal(gotCounts, counts) || !slices.Equal(gotBases, bases) {
		t.Errorf("%s: %v at %v, not %v at %v", name, gotCounts, gotBases, counts, bases)
	}
	if !impl.LogOk(x) || x.Start != l.Start || x.Next != l.Next || x.Roll != l.Roll || !slices.EqualFunc(allBatches(x), allBatches(l), sameBatch) {
		t.Errorf("%s: %+v, of %+v", name, x, l)
	}
}

func TestJoin(t *testing.T) {
	l := gappy()
	a, b, c := sizesAsTold(l.Segments[0].Batches), sizesAsTold(l.Segments[1].Batches), sizesAsTold(l.Segments[2].Batches)
	if a+b <= b+c {
		t.Fatal("the sizes are not those that are tried:", a, b, c)
	}
	rolled := func(roll int) impl.Log {
		x := gappy()
		x.Roll = roll
		return x
	}
	mustJoin(t, "all, just", rolled(a+b+c), []int{5}, []int{1})
	mustJoin(t, "all, one beyond", rolled(a+b+c-1), []int{4, 1}, []int{1, 20})
	mustJoin(t, "two, just", rolled(a+b), []int{4, 1}, []int{1, 20})
	mustJoin(t, "two, one beyond", rolled(a+b-1), []int{2, 3}, []int{1, 10})
	mustJoin(t, "the last two, just", rolled(b+c), []int{2, 3}, []int{1, 10})
	mustJoin(t, "the last two, one beyond", rolled(b+c-1), []int{2, 2, 1}, []int{1, 10, 20})
	mustJoin(t, "none", rolled(1), []int{2, 2, 1}, []int{1, 10, 20})
	mustJoin(t, "the greatest Roll", rolled(impl.MaxRoll), []int{5}, []int{1})
	mustJoin(t, "no segments", impl.NewLog(3, 5), nil, nil)
	mustJoin(t, "one without batches", impl.Log{Next: 9, Roll: 1, Segments: []impl.Segment{{Base: 4}}}, []int{0}, []int{4})
	mustJoin(t, "one", together(said("a", 1), said("a", 2)), []int{1}, []int{0})
}

// A last segment without batches has no bytes, so the one ahead takes it up, unless that is beyond Roll alone.
func TestJoinTakesUpALastSegmentWithoutBatches(t *testing.T) {
	c := sizesAsTold(gappy().Segments[2].Batches)
	for _, base := range []int{24, 26, 30} {
		l := withEmpty(gappy(), base)
		l.Roll = c
		mustJoin(t, "just", l, []int{2, 2, 1}, []int{1, 10, 20})
		l.Roll = c - 1
		mustJoin(t, "one beyond", l, []int{2, 2, 1, 0}, []int{1, 10, 20, base})
		l.Roll = impl.MaxRoll
		mustJoin(t, "with all else", l, []int{5}, []int{1})
	}
}

func TestJoinTakesUpSeveral(t *testing.T) {
	l := ladder(60, 1)
	size := sizesAsTold(l.Segments[0].Batches)
	if sizesAsTold(allBatches(l)) != 60*size {
		t.Fatal("the batches are not of one size")
	}
	counts, bases := []int{}, []int{}
	for i := range 15 {
		counts, bases = append(counts, 4), append(bases, 4*i)
	}
	l.Roll = 4 * size
	mustJoin(t, "fours", l, counts, bases)
	l.Roll = 5*size - 1
	mustJoin(t, "nearly fives", l, counts, bases)
	l.Roll = 60 * size
	mustJoin(t, "all", l, []int{60}, []int{0})
	l.Roll = 59*size + 1
	mustJoin(t, "all but one", l, []int{59, 1}, []int{0, 59})
	mustJoin(t, "most batches", ladder(40, 10), []int{400}, []int{0})
	// What is taken up counts as it is written: squeezed batches by their squeezed bytes.
	x := manyRecords()
	x.Roll = impl.MaxRoll
	if got := impl.Join(x); !sameLog(got, joinAsTold(x)) || len(got.Segments) == len(x.Segments) {
		t.Errorf("squeezed ones: %d segments", len(got.Segments))
	}
}

// Promise 7: a joined log has the same batches in the same order, no more segments, and says of each key what it said.
func TestJoinedLogsSayWhatTheySaid(t *testing.T) {
	r := rand.New(rand.NewSource(54))
	logs := append(logsToCut(r, 100), manyRecords(), split(200, 30))
	for range 2000 {
		logs = append(logs, keyLog(r))
	}
	joined := 0
	for _, l := range logs {
		l.Roll = pick(r, 1, 40, 120, 200, 300, 600, impl.MaxRoll)
		x := impl.Join(l)
		if !impl.LogOk(x) || !sameLog(x, joinAsTold(l)) {
			t.Fatalf("%+v, not %+v", x, joinAsTold(l))
		}
		if !slices.EqualFunc(allBatches(x), allBatches(l), sameBatch) || len(x.Segments) > len(l.Segments) || !slices.Equal(impl.View(x), impl.View(l)) {
			t.Fatalf("%+v, of %+v", x, l)
		}
		if again := impl.Join(x); !sameLog(again, x) {
			t.Fatalf("joined again %+v, not %+v", again, x)
		}
		joined += len(l.Segments) - len(x.Segments)
	}
	if joined < 500 {
		t.Error("too little is joined:", joined)
	}
}

func TestJoinIsAsTold(t *testing.T) {
	r := rand.New(rand.NewSource(55))
	for range 3000 {
		l := randomLog(r)
		l.Roll = pick(r, 1, 60, 120, 300, 1000)
		if n := len(l.Segments); n > 1 {
			at := r.Intn(n - 1)
			if sum := sizesAsTold(allBatches(impl.Log{Segments: l.Segments[at : at+2]})); sum < impl.MaxRoll {
				l.Roll = pick(r, l.Roll, sum, sum-1, sum+1)
			}
		}
		if r.Intn(6) == 0 {
			spoilLog(r, &l)
		}
		if got, want := impl.Join(l), joinAsTold(l); !sameLog(got, want) {
			t.Fatalf("%+v, not %+v: %+v", got, want, l)
		}
	}
}

func TestCompactionLeavesArgumentsAlone(t *testing.T) {
	r := rand.New(rand.NewSource(56))
	for range 600 {
		l := keyLog(r)
		l.Roll = pick(r, 1, 200, 2000)
		if r.Intn(6) == 0 {
			spoilLog(r, &l)
		}
		l = roomyLog(l)
		as := wholeLog(l)
		for _, to := range []int{l.Start, l.Next, l.Start + 3, r.Intn(60)} {
			impl.Compact(l, to, 15, 5)
			impl.Dirt(l, to, 15, 5)
		}
		impl.View(l)
		impl.Join(l)
		if !reflect.DeepEqual(wholeLog(l), as) {
			t.Fatalf("an argument was changed: %+v", as)
		}
	}
}

func TestCompactionAnswersAreNewMemory(t *testing.T) {
	r := rand.New(rand.NewSource(57))
	for range 600 {
		l := keyLog(r)
		l.Roll = pick(r, 1, 200, 2000)
		to := l.Start + r.Intn(l.Next-l.Start+1)
		given := roomyLog(l)
		compacted, _ := impl.Compact(given, to, 15, 5)
		joined, view := impl.Join(given), impl.View(given)
		wreckLog(given)
		want, _ := compactAsTold(l, to, 15, 5)
		if !sameLog(compacted, want) {
			t.Fatalf("what is compacted shares memory: %+v, not %+v", compacted, want)
		}
		if !sameLog(joined, joinAsTold(l)) {
			t.Fatalf("what is joined shares memory: %+v, not %+v", joined, joinAsTold(l))
		}
		if !slices.Equal(view, viewAsTold(l)) {
			t.Fatalf("the View shares memory: %+v", view)
		}
	}
}

// Lists of one answer share nothing: what is put behind one run, or into it, is not seen in the next.
func TestListsOfACompactedLogShareNothing(t *testing.T) {
	list := []impl.Record{said("a", 1), said("x", 2), said("b", 3), said("x", 4), said("c", 5), said("x", 6)}
	shared := heads(2)
	for i := range list {
		list[i].Heads = shared
	}
	l := impl.Log{Next: 24, Roll: impl.MaxRoll}
	for i := range 2 {
		l.Segments = append(l.Segments, impl.Segment{Base: 12 * i, Batches: []impl.Batch{told(12*i, list...), told(12*i+6, list...)}})
	}
	ask := func() []impl.Log {
		compacted, _ := impl.Compact(l, 6, 0, 0)
		none, _ := impl.Compact(l, 0, 0, 0)
		return []impl.Log{compacted, none, impl.Join(l)}
	}
	wants := ask()
	for i, x := range ask() {
		got, want := allBatches(x), allBatches(wants[i])
		for j := range got {
			b := &got[j]
			for k := range b.Records {
				clear(b.Records[k].Heads[:cap(b.Records[k].Heads)])
				clear(b.Records[:cap(b.Records)][k : k+1])
				rest := b.Records[k+1:]
				same := slices.EqualFunc(rest, want[j].Records[k+1:], func(a, b impl.Record) bool { return reflect.DeepEqual(a, b) })
				if !same || !slices.EqualFunc(got[j+1:], want[j+1:], sameBatch) {
					t.Fatalf("answer %d: record %d of batch %d is shared", i, k, j)
				}
			}
			clear(b.Records[:cap(b.Records)])
			if !slices.EqualFunc(got[j+1:], want[j+1:], sameBatch) {
				t.Fatalf("answer %d: the room behind batch %d is shared", i, j)
			}
		}
		for j, s := range x.Segments {
			clear(s.Batches[:cap(s.Batches)])
			for k, rest := range x.Segments[j+1:] {
				if len(rest.Batches) != len(wants[i].Segments[j+1+k].Batches) || rest.Batches[0].Base != wants[i].Segments[j+1+k].Batches[0].Base {
					t.Fatalf("answer %d: segment %d shares with %d", i, j, j+1+k)
				}
			}
		}
	}
}
