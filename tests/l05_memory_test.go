package tests

import (
	"cmp"
	"math/rand"
	"reflect"
	"slices"
	"testing"

	"loop.example/g00035/impl"
)

// A span is the memory of a list, with the room behind it.
type span struct {
	begin uintptr
	end   uintptr
}

func spansOf(v reflect.Value) []span {
	list := []span{}
	switch v.Kind() {
	case reflect.Struct:
		for i := range v.NumField() {
			list = append(list, spansOf(v.Field(i))...)
		}
	case reflect.Slice:
		if v.Cap() > 0 {
			list = append(list, span{v.Pointer(), v.Pointer() + uintptr(v.Cap())*v.Type().Elem().Size()})
		}
		for i := range v.Len() {
			list = append(list, spansOf(v.Index(i))...)
		}
	}
	return list
}

// mustBeNew: no two lists of the answer share memory, and none shares any with what was given.
func mustBeNew(t *testing.T, name string, answer any, given ...any) {
	t.Helper()
	own := spansOf(reflect.ValueOf(answer))
	slices.SortFunc(own, func(a, b span) int { return cmp.Compare(a.begin, b.begin) })
	for i, x := range own {
		if i > 0 && x.begin < own[i-1].end {
			t.Fatalf("%s: two lists of the answer share memory", name)
		}
	}
	for _, thing := range given {
		for _, y := range spansOf(reflect.ValueOf(thing)) {
			at, _ := slices.BinarySearchFunc(own, y, func(x span, y span) int {
				if x.end <= y.begin {
					return -1
				}
				return 1
			})
			if at < len(own) && own[at].begin < y.end {
				t.Fatalf("%s: the answer shares memory with an argument", name)
			}
		}
	}
}

// roomyPart is a copy of a part all of whose lists have spare room behind them, filled with what must stay.
func roomyPart(p impl.Part) impl.Part {
	out := p
	insync := append(slices.Clone(p.Insync), -7, -8)
	known := append(slices.Clone(p.Known), -7, -8)
	replicas := slices.Clone(p.Replicas)
	for i, x := range replicas {
		replicas[i].Log = roomyLog(x.Log)
	}
	replicas = append(replicas, impl.Replica{Mark: -7}, impl.Replica{Mark: -8})
	out.Insync, out.Known, out.Replicas = insync[:len(p.Insync)], known[:len(p.Known)], replicas[:len(p.Replicas)]
	return out
}

// wholePart tells a part with all that stands in the room behind its lists.
func wholePart(p impl.Part) impl.Part {
	p.Insync, p.Known = slices.Clone(p.Insync[:cap(p.Insync)]), slices.Clone(p.Known[:cap(p.Known)])
	p.Replicas = slices.Clone(p.Replicas[:cap(p.Replicas)])
	for i, x := range p.Replicas {
		p.Replicas[i].Log = wholeLog(x.Log)
	}
	return p
}

func roomyOps(ops []impl.PartOp) []impl.PartOp {
	out := slices.Clone(ops)
	for i, op := range out {
		out[i].Records = roomy(impl.Batch{Records: op.Records}).Records
	}
	return append(out, impl.PartOp{Kind: -7}, impl.PartOp{Kind: -8})[:len(ops)]
}

func wholeOps(ops []impl.PartOp) []impl.PartOp {
	out := slices.Clone(ops[:cap(ops)])
	for i, op := range out {
		out[i].Records = whole(impl.Batch{Records: op.Records}).Records
	}
	return out
}

func someOps(r *rand.Rand, replicas int) []impl.PartOp {
	ops := []impl.PartOp{}
	for range 1 + r.Intn(8) {
		ops = append(ops, randomOp(r, replicas))
	}
	return ops
}

func TestReplicasLeaveArgumentsAlone(t *testing.T) {
	r := rand.New(rand.NewSource(68))
	for range 1500 {
		p := randomPart(r)
		if r.Intn(10) == 0 {
			spoilPart(r, &p)
		}
		p = roomyPart(p)
		ops := roomyOps(someOps(r, len(p.Replicas)))
		as, asOps := wholePart(p), wholeOps(ops)
		impl.PartOk(p)
		impl.Safe(p)
		impl.RunPart(p, ops)
		for _, op := range ops {
			impl.DoPart(p, op)
		}
		for _, x := range p.Replicas {
			impl.EndOf(x.Log, r.Intn(9))
		}
		if !reflect.DeepEqual(wholePart(p), as) || !reflect.DeepEqual(wholeOps(ops), asOps) {
			t.Fatalf("an argument was changed: %+v %+v", as, asOps)
		}
	}
}

// What lies behind a list's length is not looked at.
func TestReplicasLookNotBehindTheLength(t *testing.T) {
	r := rand.New(rand.NewSource(69))
	for range 500 {
		p := randomPart(r)
		for _, op := range someOps(r, len(p.Replicas)) {
			x, told := impl.DoPart(p, op)
			y, again := impl.DoPart(roomyPart(p), roomyOps([]impl.PartOp{op})[0])
			if told != again || !samePart(x, y) {
				t.Fatalf("%+v with room: %+v %+v, without: %+v %+v", op, again, y, told, x)
			}
		}
		if !slices.EqualFunc(impl.Safe(p), impl.Safe(roomyPart(p)), sameBatch) {
			t.Fatalf("Safe with room: %+v", p)
		}
	}
}

func TestReplicasAnswersAreNewMemory(t *testing.T) {
	r := rand.New(rand.NewSource(70))
	for range 1500 {
		p := roomyPart(randomPart(r))
		ops := roomyOps(someOps(r, len(p.Replicas)))
		for _, op := range ops {
			x, _ := impl.DoPart(p, op)
			mustBeNew(t, "DoPart", x, p, op)
		}
		x, list := impl.RunPart(p, ops)
		mustBeNew(t, "RunPart", struct {
			Part impl.Part
			List []impl.PartTold
		}{x, list}, p, ops)
		mustBeNew(t, "Safe", impl.Safe(p), p)
	}
	for replicas := 1; replicas <= 5; replicas++ {
		mustBeNew(t, "NewPart", impl.NewPart(replicas, 1, 9))
	}
}

// Lists that an argument has twice are two in an answer.
func TestListsOfAPartShareNothing(t *testing.T) {
	one := impl.Record{Keyed: true, Key: "k", Heads: heads(2)}
	list := []impl.Record{one, one}
	log := impl.Log{Next: 4, Roll: 60, Segments: []impl.Segment{{Batches: []impl.Batch{{Producer: -1, Records: list}, {Base: 2, Producer: -1, Records: list}}}}}
	numbers := []int{0, 1, 2}
	p := impl.Part{Epoch: 3, Insync: numbers, Known: numbers, Least: 1}
	for range 3 {
		p.Replicas = append(p.Replicas, impl.Replica{Log: log, Up: true})
	}
	p.Replicas[2].Log = impl.NewLog(0, 60)
	write := impl.PartOp{Kind: impl.PartWrite, Records: list}
	ops := []impl.PartOp{write, write, do(impl.PartFetch, 1), do(impl.PartFetch, 2), do(impl.PartDown, 2), do(impl.PartElect, 1), write, do(impl.PartFetch, 0), do(impl.PartForce, 0), write}
	for _, op := range ops {
		x, _ := impl.DoPart(p, op)
		mustBeNew(t, "DoPart", x, p, op)
	}
	x, told := impl.RunPart(p, ops)
	for i, one := range told {
		if one.Code != impl.PartDone {
			t.Errorf("op %d is told %+v", i, one)
		}
	}
	mustBeNew(t, "RunPart", x, p, ops)
	refused, _ := impl.DoPart(p, do(impl.PartUp, 1))
	mustBeNew(t, "a refused op", refused, p)
	p.Replicas[0].Mark = 3
	mustBeNew(t, "Safe", impl.Safe(p), p)
}
