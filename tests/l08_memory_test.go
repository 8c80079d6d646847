package tests

import (
	"math/rand"
	"reflect"
	"slices"
	"testing"

	"loop.example/g00035/impl"
)

// roomyStore is a copy of a store all of whose lists have spare room behind them, filled with what must stay.
func roomyStore(s impl.Store) impl.Store {
	logs, txns := slices.Clone(s.Logs), slices.Clone(s.Txns)
	for i, l := range logs {
		logs[i] = roomyLog(l)
	}
	for i, x := range txns {
		txns[i].Parts = withRoom(x.Parts, -7)
	}
	return impl.Store{Logs: withRoom(logs, impl.Log{Roll: -7}), Txns: withRoom(txns, impl.Txn{Producer: -7}), Used: s.Used}
}

// wholeStore tells a store with all that stands in the room behind its lists.
func wholeStore(s impl.Store) impl.Store {
	s.Logs, s.Txns = withAllRoom(s.Logs), withAllRoom(s.Txns)
	for i, l := range s.Logs {
		s.Logs[i] = wholeLog(l)
	}
	for i, x := range s.Txns {
		s.Txns[i].Parts = withAllRoom(x.Parts)
	}
	return s
}

func roomyTxnOps(ops []impl.TxnOp) []impl.TxnOp {
	out := slices.Clone(ops)
	for i, op := range out {
		out[i].Records = roomy(impl.Batch{Records: op.Records}).Records
	}
	return withRoom(out, impl.TxnOp{Kind: -7})
}

func wholeTxnOps(ops []impl.TxnOp) []impl.TxnOp {
	out := withAllRoom(ops)
	for i, op := range out {
		out[i].Records = whole(impl.Batch{Records: op.Records}).Records
	}
	return out
}

// opsFor are ops that follow on each other from a store on.
func opsFor(r *rand.Rand, s impl.Store, count int) []impl.TxnOp {
	ops := []impl.TxnOp{}
	for range count {
		if len(s.Logs) == 0 {
			break
		}
		op := opFor(r, s)
		s, _ = impl.DoTxn(s, op)
		ops = append(ops, op)
	}
	return ops
}

func TestTransactionsLeaveArgumentsAlone(t *testing.T) {
	r := rand.New(rand.NewSource(101))
	for range 300 {
		s := randomStore(r)
		if r.Intn(10) == 0 {
			spoilStore(r, &s)
		}
		ops := roomyTxnOps(opsFor(r, s, 1+r.Intn(8)))
		s = roomyStore(s)
		as, asOps := wholeStore(s), wholeTxnOps(ops)
		impl.StoreOk(s)
		impl.RunTxns(s, ops)
		for _, op := range ops {
			impl.DoTxn(s, op)
		}
		for _, l := range s.Logs {
			impl.Stable(l)
			impl.Aborted(l)
			impl.Visible(l, l.Start, true)
			impl.Visible(l, l.Start, false)
		}
		if !reflect.DeepEqual(wholeStore(s), as) || !reflect.DeepEqual(wholeTxnOps(ops), asOps) {
			t.Fatalf("an argument was changed: %+v %+v", as, asOps)
		}
	}
}

// What lies behind a list's length is not looked at.
func TestTransactionsLookNotBehindTheLength(t *testing.T) {
	r := rand.New(rand.NewSource(102))
	for range 300 {
		s := randomStore(r)
		ops := opsFor(r, s, 1+r.Intn(8))
		x, list := impl.RunTxns(s, ops)
		y, again := impl.RunTxns(roomyStore(s), roomyTxnOps(ops))
		if !sameStore(x, y) || !slices.Equal(list, again) || !impl.StoreOk(roomyStore(s)) {
			t.Fatalf("RunTxns with room: %+v %+v, without: %+v %+v", again, y, list, x)
		}
		for _, l := range s.Logs {
			room := roomyLog(l)
			if impl.Stable(l) != impl.Stable(room) || !slices.Equal(impl.Aborted(l), impl.Aborted(room)) {
				t.Fatalf("Stable, Aborted with room: %+v", l)
			}
			for _, settled := range []bool{false, true} {
				list, next := impl.Visible(l, l.Start, settled)
				others, place := impl.Visible(room, l.Start, settled)
				if !sameReads(list, others) || next != place {
					t.Fatalf("Visible with room: %+v %d, without: %+v %d", others, place, list, next)
				}
			}
		}
	}
}

func TestTransactionsAnswersAreNewMemory(t *testing.T) {
	r := rand.New(rand.NewSource(103))
	type answer struct {
		Store impl.Store
		List  []impl.TxnTold
	}
	for range 200 {
		s := roomyStore(randomStore(r))
		ops := roomyTxnOps(opsFor(r, s, 1+r.Intn(8)))
		x, list := impl.RunTxns(s, ops)
		mustBeNew(t, "RunTxns", answer{x, list}, s, ops)
		for _, op := range ops {
			y, _ := impl.DoTxn(s, op)
			mustBeNew(t, "DoTxn", y, s, op)
		}
		for _, l := range x.Logs {
			mustBeNew(t, "Aborted", impl.Aborted(l), l)
			for _, settled := range []bool{false, true} {
				reads, _ := impl.Visible(l, l.Start, settled)
				mustBeNew(t, "Visible", reads, l)
			}
		}
	}
}

// Lists that an argument has twice are two in an answer.
func TestListsOfAStoreShareNothing(t *testing.T) {
	one := []impl.Record{{Keyed: true, Key: "k", Heads: heads(2)}, {Value: "v"}}
	one[1].Heads = one[0].Heads
	l := journal(impl.Batch{Producer: 1, Flags: 2, Records: one})
	l.Segments[0].Batches = append(l.Segments[0].Batches, impl.Batch{Base: 2, Producer: -1, Records: l.Segments[0].Batches[0].Records})
	l.Next = 4
	l.Segments[0].Batches[0].Records[1].Heads = l.Segments[0].Batches[0].Records[0].Heads
	parts := []int{0, 1}
	s := impl.Store{Logs: []impl.Log{l, l, l}, Used: 5, Txns: []impl.Txn{{Name: "a", Producer: 1, Open: true, Parts: parts}, {Name: "b", Producer: 2, Open: true, Parts: parts}}}
	write := impl.TxnOp{Kind: impl.TxnWrite, Name: "a", Producer: 1, Part: 2, Records: one}
	ops := []impl.TxnOp{write, {}, {Kind: impl.TxnInit, Name: "c"}, {Kind: impl.TxnInit, Name: "a"}, {Kind: impl.TxnCommit, Name: "b", Producer: 2}, {Kind: impl.TxnAbort, Name: "a", Producer: 1}, {Kind: impl.TxnCommit, Name: "c"}}
	for _, op := range ops {
		x, _ := impl.DoTxn(s, op)
		if len(x.Logs) != 3 || x.Logs[0].Next < 4 {
			t.Errorf("%+v: %+v", op, x)
		}
		mustBeNew(t, "DoTxn", x, s, op)
	}
	x, list := impl.RunTxns(s, append(ops, write, write))
	if len(list) != 9 {
		t.Error(list)
	}
	mustBeNew(t, "RunTxns", x, s, ops)
	y, _ := impl.RunTxns(s, nil)
	mustBeNew(t, "RunTxns of nothing", y, s)
	for _, settled := range []bool{false, true} {
		reads, _ := impl.Visible(x.Logs[0], 0, settled)
		if len(reads) == 0 {
			t.Error("nothing is seen")
		}
		mustBeNew(t, "Visible", reads, x.Logs[0], one)
	}
}
