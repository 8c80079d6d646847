package tests

import (
	"math/rand"
	"slices"
	"testing"

	"loop.example/g00035/impl"
)

// sentBy is a batch of so many records of a producer, at the Base 70.
func sentBy(producer int, turn int, seq int, count int) impl.Batch {
	return impl.Batch{Base: 70, Producer: producer, Turn: turn, Seq: seq, Records: records(count)}
}

func takeAsTold(list []impl.Seen, b impl.Batch) ([]impl.Seen, int, int) {
	if !tableOkAsTold(list) || !batchOkAsTold(b) {
		return nil, 4, -1
	}
	out := plainTable(list)
	if b.Producer == -1 || b.Flags&4 != 0 {
		return out, 0, -1
	}
	at, turn, next, many := -1, -1, 0, len(b.Records)
	for i, s := range out {
		if s.Producer == b.Producer {
			at, turn = i, s.Turn
		}
	}
	if b.Turn < turn {
		return out, 3, -1
	}
	if b.Turn == turn {
		next = out[at].Next
		for _, x := range out[at].Recent {
			if x.Seq == b.Seq && x.Many == many {
				return out, 1, x.Offset
			}
		}
	}
	if b.Seq != next {
		return out, 2, -1
	}
	if at < 0 && len(out) == 100 {
		return nil, 4, -1
	}
	s := impl.Seen{Producer: b.Producer, Turn: b.Turn, Next: b.Seq + many}
	if b.Turn == turn {
		s.Recent = out[at].Recent
	}
	s.Recent = append(s.Recent, impl.Recent{Seq: b.Seq, Many: many, Offset: b.Base})
	s.Recent = s.Recent[max(len(s.Recent)-5, 0):]
	out = slices.DeleteFunc(out, func(x impl.Seen) bool { return x.Producer == b.Producer })
	out = append(out, s)
	slices.SortFunc(out, func(x impl.Seen, y impl.Seen) int { return x.Producer - y.Producer })
	return out, 0, b.Base
}

// mustAnswer: what is not taken anew leaves the table as it was, but for TakeBad, that has none.
func mustAnswer(t *testing.T, name string, list []impl.Seen, b impl.Batch, want int, wantOffset int) {
	t.Helper()
	if !impl.TableOk(list) && want != impl.TakeBad {
		t.Errorf("%s: the table to try is none", name)
	}
	as := plainTable(list)
	if want == impl.TakeBad {
		as = nil
	}
	if x, code, offset := impl.Take(list, b); code != want || offset != wantOffset || !sameTable(x, as) {
		t.Errorf("%s: %d and %d, not %d and %d: %+v", name, code, offset, want, wantOffset, x)
	}
}

// mustTake: the batch is taken at its Base, and the table behind it has this in place of what it had at that place.
func mustTake(t *testing.T, name string, list []impl.Seen, b impl.Batch, want []impl.Seen) []impl.Seen {
	t.Helper()
	x, code, offset := impl.Take(list, b)
	if code != impl.TakeOk || offset != b.Base || !sameTable(x, want) || !impl.TableOk(x) {
		t.Fatalf("%s: %d and %d: %+v, not %+v", name, code, offset, x, want)
	}
	mustAnswer(t, name+", once more", x, b, impl.TakeTwice, b.Base)
	return x
}

func TestTakeOfBatchesThatAreNotCounted(t *testing.T) {
	open := sentBy(5, 0, 3, 2)
	open.Flags = impl.FlagOpen
	for name, list := range map[string][]impl.Seen{"nil": nil, "guests": guests(), "MaxSeen": crowd(100)} {
		mustAnswer(t, name+", no producer", list, bare(70, 1, 2), impl.TakeOk, -1)
		for _, turn := range []int{0, 4, 5, impl.MaxTurn} {
			for _, producer := range []int{0, 5, 9, 1001, impl.MaxOffset} {
				mark := marker("commit")
				mark.Producer, mark.Turn, mark.Seq = producer, turn, producer%3
				mustAnswer(t, name+", a mark", list, mark, impl.TakeOk, -1)
				mark.Flags += impl.FlagSqueezed
				mark.Records[0].Key = "abort"
				mustAnswer(t, name+", a squeezed mark", list, mark, impl.TakeOk, -1)
			}
		}
	}
	mustAnswer(t, "open without a mark", guests(), open, impl.TakeFenced, -1)
}

// One that is open or squeezed is counted as any other.
func TestTakeOfFlags(t *testing.T) {
	for flags := range impl.FlagMark {
		b := sentBy(2, 0, 9, 2)
		b.Flags = flags
		want := guests()
		want[0] = impl.Seen{Producer: 2, Next: 11, Recent: append(want[0].Recent, impl.Recent{Seq: 9, Many: 2, Offset: 70})}
		mustTake(t, "with Flags", guests(), b, want)
	}
}

func TestTakeOfAnotherTurn(t *testing.T) {
	for _, seq := range []int{0, 9, 15, 20} {
		for turn := range 4 {
			mustAnswer(t, "a lesser Turn", guests(), sentBy(5, turn, seq, 1), impl.TakeFenced, -1)
		}
	}
	mustAnswer(t, "a lesser Turn of what came", guests(), sentBy(9, 999, 0, 40), impl.TakeFenced, -1)
	for _, turn := range []int{5, 6, impl.MaxTurn} {
		want := guests()
		want[1] = impl.Seen{Producer: 5, Turn: turn, Next: 3, Recent: []impl.Recent{{Many: 3, Offset: 70}}}
		x := mustTake(t, "a greater Turn", guests(), sentBy(5, turn, 0, 3), want)
		mustAnswer(t, "the Turn ahead of it", x, sentBy(5, 4, 20, 3), impl.TakeFenced, -1)
		mustAnswer(t, "the Turn ahead of it, twice", x, sentBy(5, 4, 16, 4), impl.TakeFenced, -1)
		for _, seq := range []int{1, 9, 16, 20, impl.MaxOffset - 3} {
			mustAnswer(t, "a greater Turn with another Seq", guests(), sentBy(5, turn, seq, 3), impl.TakeGap, -1)
		}
	}
	// Recent of a lesser Turn says nothing of a greater one: this batch of the Seq 0 came in Turn 1000 only.
	mustAnswer(t, "the same Turn", guests(), sentBy(9, 1000, 0, 40), impl.TakeTwice, 900)
	old := []impl.Seen{seenOf(9, 6, 40, 40)}
	mustTake(t, "its number again, of a greater Turn", old, sentBy(9, 7, 0, 40), []impl.Seen{{Producer: 9, Turn: 7, Next: 40, Recent: []impl.Recent{{Many: 40, Offset: 70}}}})
}

func TestTakeOfANewProducer(t *testing.T) {
	for name, x := range map[string]struct{ producer, place int }{
		"ahead of all": {0, 0}, "right ahead": {1, 0}, "between two": {3, 1}, "between two neighbours": {4, 1}, "between the last": {7, 3}, "behind all": {10, 4}, "at most": {impl.MaxOffset, 4},
	} {
		for _, turn := range []int{0, 3, impl.MaxTurn} {
			want := slices.Insert(guests(), x.place, impl.Seen{Producer: x.producer, Turn: turn, Next: 2, Recent: []impl.Recent{{Many: 2, Offset: 70}}})
			mustTake(t, name, guests(), sentBy(x.producer, turn, 0, 2), want)
			mustAnswer(t, name+", another Seq", guests(), sentBy(x.producer, turn, 1, 2), impl.TakeGap, -1)
			mustAnswer(t, name+", the last Seq", guests(), sentBy(x.producer, turn, impl.MaxOffset-1, 2), impl.TakeGap, -1)
		}
	}
	mustTake(t, "the first of all", nil, sentBy(8, 0, 0, 40), []impl.Seen{{Producer: 8, Next: 40, Recent: []impl.Recent{{Many: 40, Offset: 70}}}})
	mustAnswer(t, "the first of all, another Seq", nil, sentBy(8, 0, 1, 1), impl.TakeGap, -1)
}

// A batch came twice when both its Seq and its number of records are those of one of Recent.
func TestTakeTwice(t *testing.T) {
	list := guests()
	for i, x := range list[1].Recent {
		for many := range 41 {
			if many == 0 {
				continue
			}
			b := sentBy(5, 4, x.Seq, many)
			if many == x.Many {
				mustAnswer(t, "one of Recent", list, b, impl.TakeTwice, 500+10*i)
				b.Base, b.Epoch, b.Flags, b.Records[0].Value = 3, 9, 3, "another"
				mustAnswer(t, "one of Recent, other things in it", list, b, impl.TakeTwice, 500+10*i)
				continue
			}
			mustAnswer(t, "its Seq with other records", list, b, impl.TakeGap, -1)
		}
	}
	came := map[[2]int]bool{}
	for _, x := range list[1].Recent {
		came[[2]int{x.Seq, x.Many}] = true
	}
	for seq := range 30 {
		for many := 1; many < 6; many++ {
			if seq != 20 && !came[[2]int{seq, many}] {
				mustAnswer(t, "neither", list, sentBy(5, 4, seq, many), impl.TakeGap, -1)
			}
		}
	}
	mustAnswer(t, "no Recent", list, sentBy(6, 1, 1, 1), impl.TakeGap, -1)
	mustAnswer(t, "no Recent, Next above", []impl.Seen{seenOf(6, 1, 4)}, sentBy(6, 1, 0, 1), impl.TakeGap, -1)
	mustAnswer(t, "another producer's", list, sentBy(2, 0, 16, 4), impl.TakeGap, -1)
}

func TestTakeGap(t *testing.T) {
	for _, x := range []struct{ producer, turn, next int }{{2, 0, 9}, {5, 4, 20}, {6, 1, 0}, {9, 1000, 40}} {
		for _, seq := range []int{x.next - 1, x.next + 1, x.next + 7, impl.MaxOffset} {
			if seq >= 0 {
				mustAnswer(t, "another Seq than Next", guests(), sentBy(x.producer, x.turn, seq, 1), impl.TakeGap, -1)
			}
		}
	}
}

// The oldest goes when there are more than MaxRecent, and is told as one that is ahead of its turn then.
func TestTakeKeepsMaxRecent(t *testing.T) {
	var list []impl.Seen
	all := []impl.Recent{}
	for i := range 12 {
		many := 1 + i%3
		b := sentBy(4, 2, 0, many)
		if i > 0 {
			b.Seq = all[i-1].Seq + all[i-1].Many
		}
		b.Base = 1000 - 10*i
		all = append(all, impl.Recent{Seq: b.Seq, Many: many, Offset: b.Base})
		want := []impl.Seen{{Producer: 4, Turn: 2, Next: b.Seq + many, Recent: all[max(0, i-4):]}}
		list = mustTake(t, "one more", list, b, want)
		for j, x := range all {
			if j >= i-4 {
				mustAnswer(t, "one that is there", list, sentBy(4, 2, x.Seq, x.Many), impl.TakeTwice, x.Offset)
			} else {
				mustAnswer(t, "one that is gone", list, sentBy(4, 2, x.Seq, x.Many), impl.TakeGap, -1)
			}
		}
	}
}

func TestTakeUpToMaxSeen(t *testing.T) {
	want := append(crowd(99), impl.Seen{Producer: 500, Next: 1, Recent: []impl.Recent{{Many: 1, Offset: 70}}})
	full := mustTake(t, "the last one", crowd(99), sentBy(500, 0, 0, 1), want)
	mustAnswer(t, "one more, ahead", full, sentBy(1, 0, 0, 1), impl.TakeBad, -1)
	for _, producer := range []int{1, 99, 197, 199, 200, impl.MaxOffset} {
		mustAnswer(t, "one more", crowd(100), sentBy(producer, 5, 0, 1), impl.TakeBad, -1)
		mustAnswer(t, "one more, another Seq", crowd(100), sentBy(producer, 5, 1, 1), impl.TakeGap, -1)
	}
	for _, i := range []int{0, 1, 50, 99} {
		want := crowd(100)
		want[i].Next, want[i].Recent = 4, append(want[i].Recent, impl.Recent{Seq: 3, Many: 1, Offset: 70})
		mustTake(t, "of those that are there", crowd(100), sentBy(2*i, i, 3, 1), want)
		want[i] = impl.Seen{Producer: 2 * i, Turn: i + 1, Next: 1, Recent: []impl.Recent{{Many: 1, Offset: 70}}}
		mustTake(t, "of a greater Turn", crowd(100), sentBy(2*i, i+1, 0, 1), want)
		mustAnswer(t, "twice", crowd(100), sentBy(2*i, i, 1, 2), impl.TakeTwice, 200*i)
	}
	mustAnswer(t, "fenced", crowd(100), sentBy(100, 49, 3, 1), impl.TakeFenced, -1)
}

// Behind the last Seq that there is none is taken any more, but of a greater Turn.
func TestTakeUpToTheLastSeq(t *testing.T) {
	for _, many := range []int{1, 2, 40} {
		list := []impl.Seen{seenOf(3, 1, impl.MaxOffset+1-many)}
		want := []impl.Seen{{Producer: 3, Turn: 1, Next: impl.MaxOffset + 1, Recent: []impl.Recent{{Seq: impl.MaxOffset + 1 - many, Many: many, Offset: 70}}}}
		x := mustTake(t, "up to the last", list, sentBy(3, 1, impl.MaxOffset+1-many, many), want)
		mustAnswer(t, "one that is no batch", x, sentBy(3, 1, impl.MaxOffset+1, 1), impl.TakeBad, -1)
		for _, seq := range []int{0, 1, impl.MaxOffset - 50} {
			mustAnswer(t, "none behind it", x, sentBy(3, 1, seq, 1), impl.TakeGap, -1)
		}
		mustTake(t, "a greater Turn", x, sentBy(3, 2, 0, 1), []impl.Seen{{Producer: 3, Turn: 2, Next: 1, Recent: []impl.Recent{{Many: 1, Offset: 70}}}})
		mustAnswer(t, "too many records", list, sentBy(3, 1, impl.MaxOffset+1-many, many+1), impl.TakeBad, -1)
	}
}

// The bounds of a Base are those of a batch.
func TestTakeAtTheLastOffset(t *testing.T) {
	b := sentBy(3, 1, 0, 2)
	b.Base = impl.MaxOffset - 1
	x := mustTake(t, "just at it", nil, b, []impl.Seen{{Producer: 3, Turn: 1, Next: 2, Recent: []impl.Recent{{Many: 2, Offset: impl.MaxOffset - 1}}}})
	b.Base++
	mustAnswer(t, "one beyond", nil, b, impl.TakeBad, -1)
	mustAnswer(t, "one beyond, twice", x, b, impl.TakeBad, -1)
	b.Base = 0
	mustTake(t, "at the least", nil, b, []impl.Seen{{Producer: 3, Turn: 1, Next: 2, Recent: []impl.Recent{{Many: 2}}}})
}

// A batch that is not right is told ahead of all that could be said of it else.
func TestTakeTellsABadBatchFirst(t *testing.T) {
	for name, do := range badBatches() {
		for what, b := range map[string]impl.Batch{"fenced": sentBy(5, 1, 0, 2), "twice": sentBy(5, 4, 16, 4), "gap": sentBy(5, 4, 30, 2), "next": sentBy(5, 4, 20, 2), "new": sentBy(7, 0, 0, 2)} {
			do(&b)
			if impl.BatchOk(b) {
				continue
			}
			mustAnswer(t, name+", "+what, guests(), b, impl.TakeBad, -1)
			mustAnswer(t, name+", "+what+", to none", nil, b, impl.TakeBad, -1)
			mustAnswer(t, name+", "+what+", to MaxSeen", crowd(100), b, impl.TakeBad, -1)
		}
	}
	mustAnswer(t, "the zero value", guests(), impl.Batch{}, impl.TakeBad, -1)
	mustAnswer(t, "neither table nor batch", crowd(101), impl.Batch{}, impl.TakeBad, -1)
}

// batchFor is a batch that a table has mostly something to say of.
func batchFor(r *rand.Rand, list []impl.Seen) impl.Batch {
	b := sentBy(r.Intn(12), pick(r, 0, 1, 2, impl.MaxTurn), pick(r, 0, 0, 1, 7), pick(r, 1, 1, 2, 3, 40))
	b.Base, b.Epoch, b.Flags = pick(r, 0, r.Intn(500), impl.MaxOffset-40), r.Intn(5), pick(r, 0, 0, 0, 1, 2, 3)
	switch {
	case r.Intn(12) == 0:
		b = markerAt(r.Intn(50))
		b.Producer, b.Turn = r.Intn(12), r.Intn(4)
	case r.Intn(12) == 0:
		b = bare(r.Intn(50), 1, 2)
	case len(list) > 0 && r.Intn(5) > 0:
		s := list[r.Intn(len(list))]
		b.Producer, b.Seq = s.Producer, pick(r, 0, s.Next, s.Next, s.Next+1, s.Next-1)
		b.Turn = pick(r, s.Turn, s.Turn, s.Turn, s.Turn, s.Turn-1, s.Turn+1)
		if len(s.Recent) > 0 && r.Intn(2) == 0 {
			x := s.Recent[r.Intn(len(s.Recent))]
			b.Seq, b.Records = x.Seq, records(x.Many+pick(r, 0, 0, 0, 1))
		}
	}
	return b
}

func TestTakeIsAsTold(t *testing.T) {
	r := rand.New(rand.NewSource(81))
	told := [5]int{}
	for range 20000 {
		list := randomTable(r)
		switch r.Intn(20) {
		case 0:
			list = spoilTable(r, list)
		case 1:
			list = crowd(pick(r, 99, 100))
		}
		for range 1 + r.Intn(10) {
			b := batchFor(r, list)
			x, code, offset := impl.Take(list, b)
			want, wantCode, wantOffset := takeAsTold(list, b)
			if code != wantCode || offset != wantOffset || !sameTable(x, want) {
				t.Fatalf("%d %d %+v, not %d %d %+v: %+v, %+v", code, offset, x, wantCode, wantOffset, want, list, b)
			}
			told[code]++
			if code == impl.TakeOk {
				list = x
			}
		}
	}
	if slices.Min(told[:]) < 2000 {
		t.Error("the batches to try are too much alike:", told)
	}
}

// Promise 14: a table that has taken a batch of a Turn takes none of a lesser one, and stays as it is.
func TestWhoeverHasALesserTurnIsFenced(t *testing.T) {
	r := rand.New(rand.NewSource(82))
	fenced := 0
	for range 3000 {
		list := randomTable(r)
		greatest := map[int]int{}
		for _, s := range list {
			greatest[s.Producer] = s.Turn
		}
		for range 20 {
			b := batchFor(r, list)
			x, code, offset := impl.Take(list, b)
			if code == impl.TakeBad {
				continue
			}
			if seen, ok := greatest[b.Producer]; ok && b.Turn < seen && b.Flags&impl.FlagMark == 0 {
				fenced++
				if code != impl.TakeFenced || offset != -1 || !sameTable(x, list) {
					t.Fatalf("Turn %d behind %d: %d %d %+v", b.Turn, seen, code, offset, x)
				}
			} else if code == impl.TakeFenced {
				t.Fatalf("Turn %d is fenced, %d was seen: %+v", b.Turn, seen, list)
			}
			if code == impl.TakeOk && b.Producer >= 0 && b.Flags&impl.FlagMark == 0 {
				greatest[b.Producer] = b.Turn
			}
			list = x
		}
	}
	if fenced < 3000 {
		t.Error("too few are fenced:", fenced)
	}
}
