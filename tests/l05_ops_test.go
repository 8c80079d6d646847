package tests

import (
	"math"
	"math/rand"
	"slices"
	"testing"

	"loop.example/g00035/impl"
)

// fetchAsTold is what a fetch does to the replica at, the leader being there and another.
func fetchAsTold(p *impl.Part, at int) {
	x, lead := &p.Replicas[at], p.Replicas[p.Leader]
	e := 0
	for _, b := range allBatches(x.Log) {
		e = b.Epoch
	}
	f, end := endOfAsTold(lead.Log, e)
	if x.Log.Next > end || f != e {
		_, own := endOfAsTold(x.Log, f)
		x.Log = cutToAsTold(x.Log, max(x.Log.Start, min(end, own)))
		x.Mark, p.Known[at] = min(x.Mark, x.Log.Next), min(p.Known[at], x.Log.Next)
		return
	}
	if lead.Log.Start > x.Log.Next {
		x.Log = impl.Log{Start: lead.Log.Start, Next: lead.Log.Start, Roll: x.Log.Roll}
	}
	begin, refused := x.Log.Next, false
	for _, b := range allBatches(lead.Log) {
		if b.Base < begin || refused {
			continue
		}
		moved := x.Log
		moved.Next = b.Base
		if taken, code := appendAsTold(moved, b); code == impl.LogOkay {
			x.Log = taken
		} else {
			refused = true
		}
	}
	if !refused && lead.Log.Next > x.Log.Next {
		x.Log.Next = lead.Log.Next
	}
	p.Known[at] = x.Log.Next
	x.Mark = max(x.Mark, x.Log.Start, min(lead.Mark, x.Log.Next))
}

func without(list []int, at int) []int {
	return slices.DeleteFunc(slices.Clone(list), func(x int) bool { return x == at })
}

// leadAsTold: At leads in the next Epoch, with this Insync.
func leadAsTold(p *impl.Part, at int, insync []int) int {
	if p.Epoch+1 > 1000000 {
		return impl.PartFar
	}
	p.Leader, p.Insync, p.Known = at, insync, make([]int, len(p.Replicas))
	p.Epoch++
	return impl.PartDone
}

func writeAsToldBy(p *impl.Part, op impl.PartOp) (int, int) {
	if len(p.Insync) < p.Least {
		return impl.PartFew, -1
	}
	log := &p.Replicas[p.Leader].Log
	base := log.Next
	taken, code := appendAsTold(*log, impl.Batch{Epoch: p.Epoch, Producer: -1, Records: op.Records})
	if code != impl.LogOkay {
		return impl.PartFar, -1
	}
	*log = taken
	return impl.PartDone, base
}

// actAsTold changes a part by an op that may be, and tells its code and Offset.
func actAsTold(p *impl.Part, op impl.PartOp) (int, int) {
	if p.Leader < 0 && op.Kind <= impl.PartJoin {
		return impl.PartNone, -1
	}
	if op.Kind == impl.PartWrite {
		return writeAsToldBy(p, op)
	}
	x, there, leads := &p.Replicas[op.At], slices.Contains(p.Insync, op.At), op.At == p.Leader
	none := map[int]bool{
		impl.PartFetch: !x.Up || leads,
		impl.PartDrop:  leads || !there,
		impl.PartJoin:  there || !x.Up,
		impl.PartElect: !x.Up || !there,
		impl.PartForce: !x.Up,
		impl.PartDown:  !x.Up,
		impl.PartUp:    x.Up,
	}
	if none[op.Kind] {
		return impl.PartNone, -1
	}
	switch op.Kind {
	case impl.PartFetch:
		fetchAsTold(p, op.At)
	case impl.PartDrop:
		p.Insync = without(p.Insync, op.At)
	case impl.PartJoin:
		if p.Known[op.At] < p.Replicas[p.Leader].Mark {
			return impl.PartFar, -1
		}
		p.Insync = slices.Sorted(slices.Values(append(slices.Clone(p.Insync), op.At)))
	case impl.PartElect:
		return leadAsTold(p, op.At, p.Insync), -1
	case impl.PartForce:
		return leadAsTold(p, op.At, []int{op.At}), -1
	case impl.PartDown:
		x.Up = false
		if leads {
			p.Leader = -1
		} else if there && len(p.Insync) > 1 && p.Leader >= 0 {
			p.Insync = without(p.Insync, op.At)
		}
	case impl.PartUp:
		x.Up = true
	}
	return impl.PartDone, -1
}

func doPartAsTold(p impl.Part, op impl.PartOp) (impl.Part, impl.PartTold) {
	may := op.Kind == 1 || op.Kind >= 2 && op.Kind <= 8 && op.At >= 0 && op.At < len(p.Replicas) && len(op.Records) == 0
	if !may || !partOkAsTold(p) {
		return impl.Part{}, impl.PartTold{Code: impl.PartBad, Offset: -1, Mark: -1}
	}
	out := plainPart(p)
	code, offset := actAsTold(&out, op)
	if code != impl.PartDone {
		out = plainPart(p)
	}
	if out.Leader < 0 {
		return out, impl.PartTold{Code: code, Offset: offset, Mark: -1}
	}
	lead := &out.Replicas[out.Leader]
	safe := lead.Log.Next
	for _, at := range without(out.Insync, out.Leader) {
		safe = min(safe, out.Known[at])
	}
	if code == impl.PartDone && safe > lead.Mark {
		lead.Mark = safe
	}
	return out, impl.PartTold{Code: code, Offset: offset, Mark: lead.Mark}
}

func do(kind int, at int) impl.PartOp {
	return impl.PartOp{Kind: kind, At: at}
}

func writing(count int) impl.PartOp {
	return impl.PartOp{Kind: impl.PartWrite, Records: records(count)}
}

// mustDo: an op is told with this code and Mark; with another code than PartDone the part is as it was. What the document says anew must say the same.
func mustDo(t *testing.T, name string, p impl.Part, op impl.PartOp, code int, mark int) impl.Part {
	t.Helper()
	if !impl.PartOk(p) {
		t.Fatalf("%s: the part to try is not right: %+v", name, p)
	}
	x, told := impl.DoPart(p, op)
	if told.Code != code || told.Mark != mark {
		t.Errorf("%s: told %+v, not %d with the Mark %d", name, told, code, mark)
	}
	if code == impl.PartBad {
		if !samePart(x, impl.Part{}) || told.Offset != -1 {
			t.Errorf("%s: %+v %+v, not the zero value", name, told, x)
		}
		return x
	}
	if !impl.PartOk(x) {
		t.Errorf("%s: not right behind it: %+v", name, x)
	}
	if code != impl.PartDone && (!samePart(x, p) || told.Offset != -1) {
		t.Errorf("%s: %+v and %+v, not the part as it was", name, told, x)
	}
	if want, wantTold := doPartAsTold(p, op); told != wantTold || !samePart(x, want) {
		t.Errorf("%s: %+v %+v, not %+v %+v", name, told, x, wantTold, want)
	}
	return x
}

// course does all these ops, each of which must be done.
func course(t *testing.T, p impl.Part, ops ...impl.PartOp) impl.Part {
	t.Helper()
	for i, op := range ops {
		x, told := impl.DoPart(p, op)
		if told.Code != impl.PartDone {
			t.Fatalf("op %d: %+v is told %+v", i, op, told)
		}
		p = x
	}
	return p
}

// An op that may not be is PartBad, whatever else could be told of it.
func TestOpsThatMayNotBe(t *testing.T) {
	p := course(t, impl.NewPart(3, 1, 500), writing(2), do(impl.PartFetch, 1), do(impl.PartFetch, 2))
	left := course(t, p, do(impl.PartDown, 0))
	few := p
	few.Least = 5
	for name, p := range map[string]impl.Part{"led": p, "without a leader": left, "few": few} {
		for _, kind := range []int{math.MinInt, -1, 0, 9, 10, math.MaxInt} {
			mustDo(t, name+": no kind", p, do(kind, 1), impl.PartBad, -1)
			mustDo(t, name+": no kind, with records", p, impl.PartOp{Kind: kind, Records: records(1)}, impl.PartBad, -1)
		}
		for kind := impl.PartFetch; kind <= impl.PartUp; kind++ {
			for _, at := range []int{math.MinInt, -1, 3, 5, math.MaxInt} {
				mustDo(t, name+": At no replica", p, do(kind, at), impl.PartBad, -1)
			}
			for at := range 3 {
				mustDo(t, name+": records", p, impl.PartOp{Kind: kind, At: at, Records: records(1)}, impl.PartBad, -1)
				if x, told := impl.DoPart(p, impl.PartOp{Kind: kind, At: at, Records: []impl.Record{}}); told.Code == impl.PartBad || !impl.PartOk(x) {
					t.Errorf("%s: an empty list is no records: %+v", name, told)
				}
			}
		}
	}
}

func TestPartWrite(t *testing.T) {
	p := impl.NewPart(3, 2, 500)
	for i, at := range []int{0, 1, 2, 3, -1, math.MaxInt, math.MinInt} {
		op := writing(2)
		op.At = at
		x, told := impl.DoPart(p, op)
		if told != (impl.PartTold{Code: impl.PartDone, Offset: 2 * i, Mark: 0}) {
			t.Errorf("At %d: %+v", at, told)
		}
		if list := allBatches(x.Replicas[0].Log); len(list) != i+1 || !sameBatch(list[i], inEpoch(2*i, 1, 2)) {
			t.Errorf("At %d: the leader's log is %+v", at, list)
		}
		p = mustDo(t, "a write", p, op, impl.PartDone, 0)
		if len(allBatches(p.Replicas[1].Log))+len(allBatches(p.Replicas[2].Log)) != 0 {
			t.Errorf("At %d: others have it too", at)
		}
	}
	p = mustDo(t, "most records", p, writing(40), impl.PartDone, 0)
	p = mustDo(t, "too many", p, writing(41), impl.PartFar, 0)
	p = mustDo(t, "no records", p, writing(0), impl.PartFar, 0)
	bad := writing(3)
	bad.Records[2].Time = -1
	p = mustDo(t, "a record that is none", p, bad, impl.PartFar, 0)
	p = course(t, p, do(impl.PartElect, 0))
	p = mustDo(t, "in the next Epoch", p, writing(1), impl.PartDone, 0)
	if list := allBatches(p.Replicas[0].Log); !sameBatch(list[len(list)-1], inEpoch(54, 2, 1)) {
		t.Errorf("the last batch is %+v", list[len(list)-1])
	}
	alone := course(t, impl.NewPart(1, 1, 500), writing(3))
	if alone.Replicas[0].Mark != 3 {
		t.Errorf("a leader alone knows of %d", alone.Replicas[0].Mark)
	}
	p = course(t, p, do(impl.PartDown, 0))
	mustDo(t, "no leader", p, writing(1), impl.PartNone, -1)
}

func TestPartWriteAtLeast(t *testing.T) {
	for least := 1; least <= 5; least++ {
		p := impl.NewPart(4, 1, 500)
		p.Least = least
		for at := 3; at >= 0; at-- {
			code := impl.PartDone
			if at+1 < least {
				code = impl.PartFew
			}
			mark := p.Replicas[0].Mark
			if code == impl.PartDone && at == 0 {
				mark += 2
			}
			p = mustDo(t, "a write", p, writing(2), code, mark)
			refused := impl.PartFar
			if code == impl.PartFew {
				refused = impl.PartFew
			}
			mustDo(t, "nothing to append", p, writing(0), refused, p.Replicas[0].Mark)
			if at > 0 {
				p = course(t, p, do(impl.PartDrop, at))
			}
		}
	}
}

// Append refuses: a log that is full, and the last offset.
func TestPartWriteTooFar(t *testing.T) {
	p := impl.NewPart(1, 1, impl.MaxRoll)
	p.Replicas[0].Log = ladder(1, 399)
	p = mustDo(t, "the last batch", p, writing(1), impl.PartDone, 400)
	p = mustDo(t, "a full log", p, writing(1), impl.PartFar, 400)
	p.Least = 2
	mustDo(t, "few, and a full log", p, writing(1), impl.PartFew, 400)
	p = course(t, p, do(impl.PartDown, 0))
	mustDo(t, "no leader, few, and a full log", p, writing(1), impl.PartNone, -1)

	p = impl.NewPart(1, 1, 1)
	p.Replicas[0].Log = ladder(59, 1)
	p.Replicas[0].Log.Roll = 1
	p = mustDo(t, "the last segment", p, writing(1), impl.PartDone, 60)
	mustDo(t, "no more segments", p, writing(1), impl.PartFar, 60)

	p = impl.NewPart(1, 1, 1)
	p.Replicas[0].Log, p.Replicas[0].Mark = impl.NewLog(impl.MaxOffset-2, 9), impl.MaxOffset-2
	mustDo(t, "beyond the last offset", p, writing(3), impl.PartFar, impl.MaxOffset-2)
	mustDo(t, "up to it", p, writing(2), impl.PartDone, impl.MaxOffset)
}

func TestPartDrop(t *testing.T) {
	p := course(t, impl.NewPart(4, 1, 500), writing(2), do(impl.PartFetch, 1), do(impl.PartFetch, 2), writing(3), do(impl.PartFetch, 2))
	mustDo(t, "the leader", p, do(impl.PartDrop, 0), impl.PartNone, 0)
	p = mustDo(t, "the one that held all up", p, do(impl.PartDrop, 3), impl.PartDone, 2)
	if !slices.Equal(p.Insync, []int{0, 1, 2}) {
		t.Errorf("Insync is %v", p.Insync)
	}
	mustDo(t, "once more", p, do(impl.PartDrop, 3), impl.PartNone, 2)
	p = mustDo(t, "the next", p, do(impl.PartDrop, 1), impl.PartDone, 5)
	if !slices.Equal(p.Insync, []int{0, 2}) {
		t.Errorf("Insync is %v", p.Insync)
	}
	down := p
	down.Replicas = slices.Clone(p.Replicas)
	down.Replicas[2].Up = false
	mustDo(t, "one that is not Up", down, do(impl.PartDrop, 2), impl.PartDone, 5)
	p = mustDo(t, "the last but the leader", p, do(impl.PartDrop, 2), impl.PartDone, 5)
	if !slices.Equal(p.Insync, []int{0}) || !slices.Equal(p.Known, []int{0, 2, 5, 0}) {
		t.Errorf("Insync is %v, Known %v", p.Insync, p.Known)
	}
	mustDo(t, "the leader alone", p, do(impl.PartDrop, 0), impl.PartNone, 5)
	p = course(t, p, do(impl.PartDown, 0))
	for at := range 4 {
		mustDo(t, "no leader", p, do(impl.PartDrop, at), impl.PartNone, -1)
	}
}

func TestPartJoin(t *testing.T) {
	p := course(t, impl.NewPart(4, 1, 500), do(impl.PartDrop, 1), do(impl.PartDrop, 2))
	mustDo(t, "the leader", p, do(impl.PartJoin, 0), impl.PartNone, 0)
	mustDo(t, "one that is there", p, do(impl.PartJoin, 3), impl.PartNone, 0)
	if x := mustDo(t, "where nothing is safe yet", p, do(impl.PartJoin, 2), impl.PartDone, 0); !slices.Equal(x.Insync, []int{0, 2, 3}) {
		t.Errorf("Insync is %v", x.Insync)
	}
	p = course(t, p, writing(2), do(impl.PartFetch, 1), do(impl.PartFetch, 3), writing(1))
	p = mustDo(t, "as far as the Mark", p, do(impl.PartJoin, 1), impl.PartDone, 2)
	if !slices.Equal(p.Insync, []int{0, 1, 3}) || !slices.Equal(p.Known, []int{0, 2, 0, 2}) {
		t.Errorf("Insync is %v, Known %v", p.Insync, p.Known)
	}
	mustDo(t, "never heard of", p, do(impl.PartJoin, 2), impl.PartFar, 2)
	for known, code := range []int{impl.PartFar, impl.PartFar, impl.PartDone, impl.PartDone} {
		x := plainPart(p)
		x.Known[2] = known
		mustDo(t, "at each Known", x, do(impl.PartJoin, 2), code, 2)
		x.Replicas[2].Up = false
		mustDo(t, "not Up", x, do(impl.PartJoin, 2), impl.PartNone, 2)
	}
	p = course(t, p, do(impl.PartDown, 0))
	for at := range 4 {
		mustDo(t, "no leader", p, do(impl.PartJoin, at), impl.PartNone, -1)
	}
	// It is the leader's own Mark that counts, even where an earlier leader's was above it.
	p = course(t, impl.NewPart(3, 1, 500), do(impl.PartDrop, 2), writing(2), do(impl.PartFetch, 1), do(impl.PartElect, 1))
	mustDo(t, "a new leader that knows of nothing yet", p, do(impl.PartJoin, 2), impl.PartDone, 0)
}

func mustLead(t *testing.T, name string, p impl.Part, leader int, epoch int, insync ...int) {
	t.Helper()
	if p.Leader != leader || p.Epoch != epoch || !slices.Equal(p.Insync, insync) {
		t.Errorf("%s: %d leads in the Epoch %d, Insync is %v", name, p.Leader, p.Epoch, p.Insync)
	}
	if len(without(p.Known, 0)) != 0 || len(p.Known) != len(p.Replicas) {
		t.Errorf("%s: Known is %v", name, p.Known)
	}
}

func TestPartElect(t *testing.T) {
	p := course(t, impl.NewPart(4, 1, 500), writing(2), do(impl.PartFetch, 1), do(impl.PartFetch, 2), do(impl.PartFetch, 3), do(impl.PartFetch, 1), do(impl.PartDrop, 3), writing(1))
	mustDo(t, "not in Insync", p, do(impl.PartElect, 3), impl.PartNone, 2)
	x := mustDo(t, "one that knew of the Mark", p, do(impl.PartElect, 1), impl.PartDone, 2)
	mustLead(t, "one that knew", x, 1, 2, 0, 1, 2)
	mustDo(t, "the old leader fetches: cut", x, do(impl.PartFetch, 0), impl.PartDone, 2)
	y := mustDo(t, "one that did not know of it", p, do(impl.PartElect, 2), impl.PartDone, 0)
	mustLead(t, "one that did not", y, 2, 2, 0, 1, 2)
	z := mustDo(t, "the leader itself", p, do(impl.PartElect, 0), impl.PartDone, 2)
	mustLead(t, "the leader itself", z, 0, 2, 0, 1, 2)

	p.Epoch = impl.MaxEpoch - 1
	p = mustDo(t, "up to MaxEpoch", p, do(impl.PartElect, 1), impl.PartDone, 2)
	mustLead(t, "up to MaxEpoch", p, 1, impl.MaxEpoch, 0, 1, 2)
	for at := range 3 {
		mustDo(t, "above MaxEpoch", p, do(impl.PartElect, at), impl.PartFar, 2)
	}
	mustDo(t, "not in Insync, above MaxEpoch", p, do(impl.PartElect, 3), impl.PartNone, 2)

	p = course(t, impl.NewPart(3, 1, 500), writing(1), do(impl.PartFetch, 1), do(impl.PartFetch, 2), do(impl.PartDown, 0), do(impl.PartDown, 2))
	mustDo(t, "in Insync, not Up", p, do(impl.PartElect, 0), impl.PartNone, -1)
	mustDo(t, "in Insync, not Up", p, do(impl.PartElect, 2), impl.PartNone, -1)
	p = mustDo(t, "where there was none", p, do(impl.PartElect, 1), impl.PartDone, 0)
	mustLead(t, "where there was none", p, 1, 2, 0, 1, 2)
}

func TestPartForce(t *testing.T) {
	p := course(t, impl.NewPart(3, 1, 500), writing(2), do(impl.PartFetch, 2), writing(1), do(impl.PartDrop, 1), do(impl.PartDown, 0))
	mustDo(t, "not Up", p, do(impl.PartForce, 0), impl.PartNone, -1)
	x := mustDo(t, "not in Insync", p, do(impl.PartForce, 1), impl.PartDone, 0)
	mustLead(t, "not in Insync", x, 1, 2, 1)
	y := mustDo(t, "in Insync", p, do(impl.PartForce, 2), impl.PartDone, 2)
	mustLead(t, "in Insync", y, 2, 2, 2)
	z := mustDo(t, "the leader itself", y, do(impl.PartForce, 2), impl.PartDone, 2)
	mustLead(t, "the leader itself", z, 2, 3, 2)
	p.Epoch = impl.MaxEpoch - 1
	p = mustDo(t, "up to MaxEpoch", p, do(impl.PartForce, 1), impl.PartDone, 0)
	mustLead(t, "up to MaxEpoch", p, 1, impl.MaxEpoch, 1)
	mustDo(t, "above MaxEpoch", p, do(impl.PartForce, 2), impl.PartFar, 0)
	mustDo(t, "not Up, above MaxEpoch", p, do(impl.PartForce, 0), impl.PartNone, 0)
}

func TestPartDownAndUp(t *testing.T) {
	p := course(t, impl.NewPart(3, 1, 500), writing(2), do(impl.PartFetch, 1))
	mustDo(t, "one that is Up", p, do(impl.PartUp, 2), impl.PartNone, 0)
	mustDo(t, "the leader, that is Up", p, do(impl.PartUp, 0), impl.PartNone, 0)
	p = mustDo(t, "one that held all up", p, do(impl.PartDown, 2), impl.PartDone, 2)
	if !slices.Equal(p.Insync, []int{0, 1}) || p.Replicas[2].Up || p.Leader != 0 || p.Epoch != 1 {
		t.Errorf("a follower went down: %+v", p)
	}
	mustDo(t, "once more", p, do(impl.PartDown, 2), impl.PartNone, 2)
	mustDo(t, "fetch while down", p, do(impl.PartFetch, 2), impl.PartNone, 2)
	back := mustDo(t, "back", p, do(impl.PartUp, 2), impl.PartDone, 2)
	if !slices.Equal(back.Insync, []int{0, 1}) || !back.Replicas[2].Up {
		t.Errorf("a follower came back: %+v", back)
	}
	down := mustDo(t, "one that is not in Insync", back, do(impl.PartDown, 2), impl.PartDone, 2)
	if !samePart(down, p) {
		t.Errorf("down once more: %+v", down)
	}

	p = mustDo(t, "the leader", p, do(impl.PartDown, 0), impl.PartDone, -1)
	if p.Leader != -1 || !slices.Equal(p.Insync, []int{0, 1}) || p.Epoch != 1 || p.Replicas[0].Up || p.Replicas[0].Mark != 2 || !slices.Equal(p.Known, []int{0, 2, 0}) {
		t.Errorf("the leader went down: %+v", p)
	}
	mustDo(t, "the leader once more", p, do(impl.PartDown, 0), impl.PartNone, -1)
	x := mustDo(t, "it is back, and leads no more", p, do(impl.PartUp, 0), impl.PartDone, -1)
	if x.Leader != -1 || !x.Replicas[0].Up || x.Epoch != 1 {
		t.Errorf("the leader came back: %+v", x)
	}
	x = mustDo(t, "it is elected", x, do(impl.PartElect, 0), impl.PartDone, 2)
	mustLead(t, "it is elected", x, 0, 2, 0, 1)
	p = mustDo(t, "where there is no leader", p, do(impl.PartDown, 1), impl.PartDone, -1)
	if !slices.Equal(p.Insync, []int{0, 1}) || p.Replicas[1].Up {
		t.Errorf("down without a leader: %+v", p)
	}

	alone := course(t, impl.NewPart(2, 1, 500), writing(2), do(impl.PartDrop, 1), do(impl.PartDown, 0))
	if alone.Leader != -1 || !slices.Equal(alone.Insync, []int{0}) {
		t.Errorf("alone in Insync: %+v", alone)
	}
	mustDo(t, "another may not lead", alone, do(impl.PartElect, 1), impl.PartNone, -1)
	alone = course(t, alone, do(impl.PartUp, 0), do(impl.PartDown, 0), do(impl.PartDown, 1), do(impl.PartUp, 0))
	if !slices.Equal(alone.Insync, []int{0}) {
		t.Errorf("alone in Insync, without a leader: %+v", alone)
	}
	mustLead(t, "alone in Insync, back", course(t, alone, do(impl.PartElect, 0)), 0, 2, 0)
}

// Behind each op that is done the leader's Mark grows as far as it may, whatever the op was; behind none that is refused; and it never falls.
func TestTheMarkGrowsBehindEachOp(t *testing.T) {
	p := course(t, impl.NewPart(4, 1, 500), writing(2), writing(4))
	p.Replicas[3].Up = false
	p.Known = []int{0, 3, 5, 0}
	p.Insync = []int{0, 1, 2}
	mustDo(t, "a write", p, writing(1), impl.PartDone, 3)
	mustDo(t, "a write that is refused", p, writing(0), impl.PartFar, 0)
	mustDo(t, "up", p, do(impl.PartUp, 3), impl.PartDone, 3)
	mustDo(t, "up, refused", p, do(impl.PartUp, 2), impl.PartNone, 0)
	mustDo(t, "down", p, do(impl.PartDown, 1), impl.PartDone, 5)
	mustDo(t, "drop", p, do(impl.PartDrop, 1), impl.PartDone, 5)
	mustDo(t, "drop", p, do(impl.PartDrop, 2), impl.PartDone, 3)
	mustDo(t, "fetch", p, do(impl.PartFetch, 1), impl.PartDone, 5)
	mustDo(t, "fetch, refused", p, do(impl.PartFetch, 0), impl.PartNone, 0)
	mustDo(t, "elect", p, do(impl.PartElect, 0), impl.PartDone, 0)
	mustDo(t, "force", p, do(impl.PartForce, 0), impl.PartDone, 6)
	p.Insync = []int{0, 2}
	mustDo(t, "join", p, do(impl.PartJoin, 1), impl.PartDone, 3)
	p.Known = []int{0, 6, impl.MaxOffset, 0}
	mustDo(t, "Known beyond all", p, do(impl.PartJoin, 1), impl.PartDone, 6)
	mustDo(t, "Known beyond its own Next", p, do(impl.PartUp, 3), impl.PartDone, 6)
	p.Known[2], p.Replicas[0].Mark = 1, 4
	mustDo(t, "Known below the Mark", p, do(impl.PartUp, 3), impl.PartDone, 4)
	p.Known[0] = 0
	p.Insync = []int{0}
	mustDo(t, "its own Known is not looked at", p, do(impl.PartUp, 3), impl.PartDone, 6)
}

// randomOp is mostly one that may be.
func randomOp(r *rand.Rand, replicas int) impl.PartOp {
	op := impl.PartOp{Kind: 1 + r.Intn(8), At: r.Intn(replicas)}
	if r.Intn(4) == 0 {
		op.Kind = impl.PartFetch
	}
	if op.Kind == impl.PartWrite {
		op.Records = logBatch(r).Records
	}
	switch r.Intn(30) {
	case 0:
		op.Kind = pick(r, -1, 0, 9)
	case 1:
		op.At = pick(r, -1, replicas)
	case 2:
		op.Records = records(pick(r, 0, 1, 41))
	}
	return op
}

func TestDoPartIsAsTold(t *testing.T) {
	r := rand.New(rand.NewSource(62))
	seen := map[[2]int]int{}
	for range 12000 {
		p := randomPart(r)
		if r.Intn(30) == 0 {
			spoilPart(r, &p)
		}
		op := randomOp(r, len(p.Replicas))
		x, told := impl.DoPart(p, op)
		want, wantTold := doPartAsTold(p, op)
		if told != wantTold || !samePart(x, want) {
			t.Fatalf("%+v is told %+v, not %+v:\n%+v\nnot\n%+v\nof\n%+v", op, told, wantTold, x, want, p)
		}
		if told.Code != impl.PartBad && !impl.PartOk(x) {
			t.Fatalf("%+v makes it not right: %+v of %+v", op, x, p)
		}
		seen[[2]int{op.Kind, told.Code}]++
	}
	for kind, codes := range [][]int{1: {0, 1, 2, 3, 4}, 2: {0, 1, 2}, 3: {0, 1, 2}, 4: {0, 1, 2, 4}, 5: {0, 1, 2, 4}, 6: {0, 1, 2, 4}, 7: {0, 1, 2}, 8: {0, 1, 2}} {
		for _, code := range codes {
			if seen[[2]int{kind, code}] < 10 {
				t.Errorf("kind %d, code %d: tried %d times only", kind, code, seen[[2]int{kind, code}])
			}
		}
	}
}
