package tests

import (
	"math/rand"
	"reflect"
	"slices"
	"testing"

	"loop.example/g00035/impl"
)

func roomyTable(list []impl.Seen) []impl.Seen {
	list = plainTable(list)
	for i, s := range list {
		list[i].Recent = withRoom(s.Recent, impl.Recent{Seq: -7})
	}
	return withRoom(list, impl.Seen{Producer: -7})
}

// wholeTable tells a table with all that stands in the room behind its lists.
func wholeTable(list []impl.Seen) []impl.Seen {
	list = withAllRoom(list)
	for i, s := range list {
		list[i].Recent = withAllRoom(s.Recent)
	}
	return list
}

func roomySends(sends [][]impl.Record) [][]impl.Record {
	out := slices.Clone(sends)
	for i, list := range out {
		out[i] = roomy(impl.Batch{Records: list}).Records
	}
	return withRoom(out, []impl.Record{{Time: -7}})
}

func wholeSends(sends [][]impl.Record) [][]impl.Record {
	out := withAllRoom(sends)
	for i, list := range out {
		out[i] = whole(impl.Batch{Records: list}).Records
	}
	return out
}

func TestTablesLeaveArgumentsAlone(t *testing.T) {
	r := rand.New(rand.NewSource(88))
	for range 5000 {
		list := randomTable(r)
		if r.Intn(10) == 0 {
			list = spoilTable(r, list)
		}
		list = roomyTable(list)
		b := roomy(batchFor(r, list))
		as, asBatch := wholeTable(list), whole(b)
		impl.TableOk(list)
		impl.Take(list, b)
		if !reflect.DeepEqual(wholeTable(list), as) || !reflect.DeepEqual(whole(b), asBatch) {
			t.Fatalf("an argument was changed: %+v %+v", as, asBatch)
		}
	}
}

func TestSendersLeaveArgumentsAlone(t *testing.T) {
	r := rand.New(rand.NewSource(89))
	for range 800 {
		l := producersLog(r)
		if r.Intn(10) == 0 {
			spoilLog(r, &l)
		}
		l = roomyLog(l)
		s := impl.Sender{Producer: r.Intn(5), Turn: r.Intn(4), Tries: 1 + r.Intn(4)}
		sends, fates := roomySends(someParcels(r)), withRoom(someFates(r), -7)
		as, asSends, asFates := wholeLog(l), wholeSends(sends), withAllRoom(fates)
		impl.Learn(l)
		impl.SendAll(l, s, sends, fates)
		if !reflect.DeepEqual(wholeLog(l), as) || !reflect.DeepEqual(wholeSends(sends), asSends) || !slices.Equal(withAllRoom(fates), asFates) {
			t.Fatalf("an argument was changed: %+v %+v %d", as, asSends, asFates)
		}
	}
}

// What lies behind a list's length is not looked at.
func TestProducersLookNotBehindTheLength(t *testing.T) {
	r := rand.New(rand.NewSource(90))
	for range 800 {
		list := randomTable(r)
		b := batchFor(r, list)
		x, code, offset := impl.Take(list, b)
		y, again, place := impl.Take(roomyTable(list), roomy(b))
		if code != again || offset != place || !sameTable(x, y) || impl.TableOk(list) != impl.TableOk(roomyTable(list)) {
			t.Fatalf("Take with room: %d %d %+v, without: %d %d %+v", again, place, y, code, offset, x)
		}
		l := producersLog(r)
		if !sameTable(impl.Learn(l), impl.Learn(roomyLog(l))) {
			t.Fatalf("Learn with room: %+v", l)
		}
		s := impl.Sender{Producer: r.Intn(5), Turn: r.Intn(4), Tries: 1 + r.Intn(4)}
		sends, fates := someParcels(r), someFates(r)
		log, reports := impl.SendAll(l, s, sends, fates)
		other, others := impl.SendAll(roomyLog(l), s, roomySends(sends), withRoom(fates, -7))
		if !sameLog(log, other) || !slices.Equal(reports, others) {
			t.Fatalf("SendAll with room: %+v %+v, without: %+v %+v", others, other, reports, log)
		}
	}
}

func TestProducersAnswersAreNewMemory(t *testing.T) {
	r := rand.New(rand.NewSource(91))
	for range 800 {
		list := roomyTable(randomTable(r))
		for range 8 {
			b := roomy(batchFor(r, list))
			x, code, _ := impl.Take(list, b)
			mustBeNew(t, "Take", x, list, b)
			if code == impl.TakeOk {
				list = x
			}
		}
		l := roomyLog(producersLog(r))
		mustBeNew(t, "Learn", impl.Learn(l), l)
		s := impl.Sender{Producer: r.Intn(5), Turn: r.Intn(4), Tries: 1 + r.Intn(4)}
		sends, fates := roomySends(someParcels(r)), withRoom(someFates(r), -7)
		log, reports := impl.SendAll(l, s, sends, fates)
		mustBeNew(t, "SendAll", struct {
			Log  impl.Log
			List []impl.Report
		}{log, reports}, l, sends, fates)
	}
}

// Lists that an argument has twice are two in an answer.
func TestListsOfProducersShareNothing(t *testing.T) {
	recent := seenOf(1, 0, 9, 2, 1, 2, 1, 3).Recent
	list := []impl.Seen{{Producer: 1, Next: 9, Recent: recent}, {Producer: 2, Next: 9, Recent: recent}, {Producer: 4, Next: 9, Recent: recent}}
	for _, b := range []impl.Batch{sentBy(1, 0, 9, 1), sentBy(1, 0, 6, 3), sentBy(2, 1, 0, 1), sentBy(3, 0, 0, 1), sentBy(4, 0, 3, 3), bare(0, 1), markOf(1, 9)} {
		x, code, _ := impl.Take(list, b)
		if code == impl.TakeBad || len(x) < 3 {
			t.Errorf("%+v is told %d", b, code)
		}
		mustBeNew(t, "Take", x, list, b)
	}
	one := []impl.Record{{Keyed: true, Key: "k", Heads: heads(2)}, {Value: "v", Heads: heads(1)}}
	one[1].Heads = one[0].Heads
	l := journal(impl.Batch{Producer: -1, Records: one})
	l.Segments[0].Batches = append(l.Segments[0].Batches, impl.Batch{Base: 2, Producer: -1, Records: l.Segments[0].Batches[0].Records})
	l.Next = 4
	sends := [][]impl.Record{one, one, one}
	x, reports := impl.SendAll(l, impl.Sender{Producer: 3, Tries: 2}, sends, []int{impl.FateDeaf, impl.FateMoved})
	if len(reports) != 3 || x.Next != 10 {
		t.Errorf("%+v %+v", reports, x)
	}
	mustBeNew(t, "SendAll", x, l, sends)
	idle, _ := impl.SendAll(l, impl.Sender{Producer: 3, Tries: 2}, nil, nil)
	mustBeNew(t, "SendAll of nothing", idle, l)
}
