package tests

import (
	"maps"
	"math/rand"
	"slices"
	"strconv"
	"testing"

	"loop.example/g00035/impl"
)

func runTxnsAsTold(s impl.Store, ops []impl.TxnOp) (impl.Store, []impl.TxnTold) {
	if !storeOkAsTold(s) || len(ops) > 200 {
		return impl.Store{}, nil
	}
	list := []impl.TxnTold{}
	for _, op := range ops {
		x, told := doTxnAsTold(s, op)
		s, list = x, append(list, told)
	}
	return s, list
}

func mustRunTxns(t *testing.T, name string, s impl.Store, ops []impl.TxnOp) impl.Store {
	t.Helper()
	x, list := impl.RunTxns(s, ops)
	want, wantList := runTxnsAsTold(s, ops)
	if !slices.Equal(list, wantList) || !sameStore(x, want) || !impl.StoreOk(x) || len(list) != len(ops) {
		t.Errorf("%s: %+v, not %+v", name, list, wantList)
	}
	return x
}

func TestRunTxns(t *testing.T) {
	if x := mustRunTxns(t, "no ops", bank(), nil); !sameStore(x, bank()) {
		t.Error("no ops changed the store:", x)
	}
	mustRunTxns(t, "an empty list", bank(), []impl.TxnOp{})
	write := alpha(impl.TxnWrite)
	other := impl.TxnOp{Kind: impl.TxnWrite, Name: "c", Producer: 5, Part: 3, Records: records(1)}
	ops := []impl.TxnOp{write, {}, other, {Kind: impl.TxnCommit, Name: "none"}, alpha(impl.TxnInit), write, other, {Kind: impl.TxnWrite, Name: "c", Producer: 5}, {Kind: impl.TxnCommit, Name: "c", Producer: 5}, alpha(impl.TxnAbort)}
	x := mustRunTxns(t, "refused ones among others", bank(), ops)
	_, list := impl.RunTxns(bank(), ops)
	want := []impl.TxnTold{writtenAt(4), bareTold(1), writtenAt(3), bareTold(2), owner(2, 5), bareTold(3), writtenAt(5), bareTold(4), bareTold(0), bareTold(3)}
	if !slices.Equal(list, want) {
		t.Errorf("%+v, not %+v", list, want)
	}
	if reads, next := impl.Visible(x.Logs[3], 0, true); len(reads) != 4 || next != 7 {
		t.Error("what c wrote is not to be seen:", reads, next)
	}
}

func TestRunTxnsUpToMaxTxnOps(t *testing.T) {
	ops := []impl.TxnOp{{Kind: impl.TxnInit, Name: "a"}}
	for len(ops) < 200 {
		ops = append(ops, impl.TxnOp{Kind: impl.TxnWrite, Name: "a", Part: len(ops) % 3, Records: records(1)})
	}
	x := mustRunTxns(t, "MaxTxnOps", impl.NewStore(3, 500), ops)
	if x.Logs[0].Next+x.Logs[1].Next+x.Logs[2].Next != 199 {
		t.Error("not all were done")
	}
	for _, more := range []int{1, 2, 300} {
		list := append(slices.Clone(ops), make([]impl.TxnOp, more)...)
		if x, told := impl.RunTxns(impl.NewStore(3, 500), list); len(told) != 0 || !sameStore(x, impl.Store{}) {
			t.Error("more than MaxTxnOps:", len(list), told)
		}
	}
	mustRunTxns(t, "as many that are none", bank(), make([]impl.TxnOp, 200))
}

func TestRunTxnsIsAsTold(t *testing.T) {
	r := rand.New(rand.NewSource(98))
	for range 150 {
		s := randomStore(r)
		ops := []impl.TxnOp{}
		for x := s; len(ops) < 25; {
			ops = append(ops, opFor(r, x))
			x, _ = impl.DoTxn(x, ops[len(ops)-1])
		}
		mustRunTxns(t, "at random", s, ops)
	}
}

// A notebook knows of every record that was written, by its Value, of which transaction it is, and what became of that one. A reader of each partition goes on from where it was told to.
type notebook struct {
	written int
	of      map[string]int
	where   map[string]int
	fate    []int
	under   map[string]int
	turns   map[string]int
	seen    [][]string
	next    []int
}

const (
	fateOpen = iota
	fateKept
	fateGone
)

func newNotebook(parts int) *notebook {
	return &notebook{of: map[string]int{}, where: map[string]int{}, under: map[string]int{}, turns: map[string]int{}, seen: make([][]string, parts), next: make([]int, parts)}
}

// op is one of few names, mostly as it may be.
func (n *notebook) op(r *rand.Rand, parts int) impl.TxnOp {
	names := []string{"a", "b", "c", "d"}
	at := r.Intn(len(names))
	op := impl.TxnOp{Kind: pick(r, 2, 2, 2, 2, 2, 2, 2, 2, 3, 3, 4, 1), Name: names[at], Producer: at, Part: r.Intn(parts)}
	op.Turn = n.turns[op.Name]
	if r.Intn(12) == 0 {
		op.Turn += pick(r, -1, -1, -2, 1)
	}
	for range pick(r, 1, 1, 2, 3) {
		n.written++
		op.Records = append(op.Records, impl.Record{Time: r.Intn(50), Value: "w" + strconv.Itoa(n.written)})
	}
	return op
}

func (n *notebook) end(name string, fate int) {
	if deal, ok := n.under[name]; ok {
		n.fate[deal] = fate
		delete(n.under, name)
	}
}

// note puts down what an op did, by what was told alone.
func (n *notebook) note(t *testing.T, op impl.TxnOp, told impl.TxnTold) {
	t.Helper()
	if op.Kind != impl.TxnInit && op.Turn != n.turns[op.Name] && told.Code == impl.TxnDone {
		t.Fatalf("whoever was replaced has done %+v", op)
	}
	if told.Code != impl.TxnDone {
		return
	}
	switch op.Kind {
	case impl.TxnInit:
		n.end(op.Name, fateGone)
		n.turns[op.Name] = told.Turn
	case impl.TxnWrite:
		deal, ok := n.under[op.Name]
		if !ok {
			deal = len(n.fate)
			n.fate = append(n.fate, fateOpen)
			n.under[op.Name] = deal
		}
		for i, x := range op.Records {
			n.of[x.Value], n.where[x.Value] = deal, told.Offset+i
		}
	case impl.TxnCommit:
		n.end(op.Name, fateKept)
	case impl.TxnAbort:
		n.end(op.Name, fateGone)
	}
}

func valuesOf(t *testing.T, list []impl.Read, n *notebook) []string {
	t.Helper()
	values := []string{}
	for _, x := range list {
		values = append(values, x.Record.Value)
		if where, ok := n.where[x.Record.Value]; !ok || where != x.Offset {
			t.Fatalf("%+v was written at %d", x, where)
		}
	}
	return values
}

// look: what settled readers see behind an op.
func (n *notebook) look(t *testing.T, s impl.Store) {
	t.Helper()
	for part, l := range s.Logs {
		list, next := impl.Visible(l, 0, true)
		values := valuesOf(t, list, n)
		for _, value := range values {
			if n.fate[n.of[value]] != fateKept {
				t.Fatalf("%s of partition %d is seen, though its transaction is open or gone", value, part)
			}
		}
		if next != impl.Stable(l) {
			t.Fatalf("the reader goes on at %d, Stable is %d", next, impl.Stable(l))
		}
		want := []string{}
		for _, x := range linesOf(l) {
			if x.batch.Flags&4 == 0 && x.offset < next && n.fate[n.of[x.record.Value]] == fateKept {
				want = append(want, x.record.Value)
			}
			if x.batch.Flags&4 == 0 && x.offset >= next && len(n.under) == 0 {
				t.Fatalf("no transaction is open, and %s is not settled", x.record.Value)
			}
		}
		if !slices.Equal(values, want) {
			t.Fatalf("partition %d: %v, not %v", part, values, want)
		}
		news, goesOn := impl.Visible(l, n.next[part], true)
		n.seen[part] = append(n.seen[part], valuesOf(t, news, n)...)
		n.next[part] = goesOn
		if !slices.Equal(n.seen[part], values) {
			t.Fatalf("partition %d: read in pieces %v, at once %v", part, n.seen[part], values)
		}
		mustNotOverlap(t, impl.Aborted(l))
	}
}

// allOrNothing: when no transaction is open any more, of each all records are seen, or none.
func (n *notebook) allOrNothing(t *testing.T, s impl.Store) (int, int) {
	t.Helper()
	seen := map[string]int{}
	for _, l := range s.Logs {
		list, _ := impl.Visible(l, 0, true)
		for _, x := range list {
			seen[x.Record.Value]++
		}
	}
	kept, lost := 0, 0
	for value, deal := range n.of {
		want := 0
		if n.fate[deal] == fateKept {
			want = 1
			kept++
		} else {
			lost++
		}
		if seen[value] != want {
			t.Fatalf("%s is seen %d times", value, seen[value])
		}
	}
	return kept, lost
}

// Promises 15 and 16, of long lists of ops of four names among each other in few and in many partitions.
func TestSettledReadersSeeAllOrNothing(t *testing.T) {
	r := rand.New(rand.NewSource(99))
	kept, lost, codes := 0, 0, [5]int{}
	// With a Roll of 1 the segments run out, so that ops are refused with transactions under way.
	for _, x := range [][2]int{{1, 300}, {2, 60}, {2, impl.MaxRoll}, {3, 60}, {3, 300}, {3, impl.MaxRoll}, {5, 60}, {5, 300}, {12, 60}, {1, 1}, {2, 1}, {3, 1}} {
		parts := x[0]
		s := impl.NewStore(parts, x[1])
		n := newNotebook(parts)
		for _, name := range []string{"a", "b", "c", "d"} {
			s, _ = impl.DoTxn(s, impl.TxnOp{Kind: impl.TxnInit, Name: name})
		}
		was := make([][]string, parts)
		for step := range 260 {
			op := n.op(r, parts)
			if step >= 256 {
				op = impl.TxnOp{Kind: pick(r, impl.TxnCommit, impl.TxnAbort), Name: string(rune('a' + step - 256)), Producer: step - 256}
				op.Turn = n.turns[op.Name]
			}
			x, told := impl.DoTxn(s, op)
			n.note(t, op, told)
			n.look(t, x)
			s = x
			codes[told.Code]++
			for part, l := range s.Logs {
				list, _ := impl.Visible(l, 0, true)
				values := valuesOf(t, list, n)
				if len(values) < len(was[part]) || !slices.Equal(values[:len(was[part])], was[part]) {
					t.Fatalf("what was seen has changed: %v, now %v", was[part], values)
				}
				was[part] = values
			}
		}
		if len(n.under) == 0 {
			more, less := n.allOrNothing(t, s)
			kept, lost = kept+more, lost+less
		}
	}
	if kept < 600 || lost < 600 || codes[impl.TxnFenced] < 80 || codes[impl.TxnFull] < 80 {
		t.Error("the ops to try are too much alike:", kept, lost, codes)
	}
}

// What a settled reader sees behind some of the ops is the beginning of what it sees behind all of them.
func TestWhatIsSettledStaysTheBeginning(t *testing.T) {
	r := rand.New(rand.NewSource(100))
	grew := 0
	for range 40 {
		parts := 1 + r.Intn(4)
		s := impl.NewStore(parts, pick(r, 60, 300, impl.MaxRoll))
		ops := []impl.TxnOp{{Kind: 1, Name: "a"}, {Kind: 1, Name: "b"}, {Kind: 1, Name: "c"}, {Kind: 1, Name: "d"}}
		n := newNotebook(parts)
		s, _ = impl.RunTxns(s, ops)
		ops = nil
		x := s
		for len(ops) < 80 {
			op := n.op(r, parts)
			y, told := impl.DoTxn(x, op)
			n.note(t, op, told)
			x, ops = y, append(ops, op)
		}
		all, _ := impl.RunTxns(s, ops)
		for many := 0; many <= len(ops); many += 1 + r.Intn(9) {
			some, _ := impl.RunTxns(s, ops[:many])
			for part := range parts {
				list, _ := impl.Visible(all.Logs[part], 0, true)
				begin, _ := impl.Visible(some.Logs[part], 0, true)
				if len(begin) > len(list) || !sameReads(begin, list[:len(begin)]) {
					t.Fatalf("behind %d ops: %+v, behind all: %+v", many, begin, list)
				}
				grew += min(1, len(list)-len(begin))
			}
		}
	}
	if grew < 400 {
		t.Error("too little was seen later on:", grew)
	}
}

// A transaction in several partitions, with another one among its batches: step by step what is seen of each.
func TestATransactionInManyPartitions(t *testing.T) {
	s := impl.NewStore(3, impl.MaxRoll)
	say := func(kind int, name string, producer int, turn int, part int, values ...string) {
		op := impl.TxnOp{Kind: kind, Name: name, Producer: producer, Turn: turn, Part: part}
		for _, value := range values {
			op.Records = append(op.Records, impl.Record{Value: value})
		}
		x, told := impl.DoTxn(s, op)
		if told.Code != impl.TxnDone {
			t.Fatalf("%+v: %+v", op, told)
		}
		s = x
	}
	sees := func(want ...[]string) {
		t.Helper()
		for part, l := range s.Logs {
			list, _ := impl.Visible(l, 0, true)
			got := []string{}
			for _, x := range list {
				got = append(got, x.Record.Value)
			}
			if !slices.Equal(got, want[part]) {
				t.Errorf("partition %d: %v, not %v", part, got, want[part])
			}
		}
	}
	none := []string{}
	say(1, "a", 0, 0, 0)
	say(1, "b", 0, 0, 0)
	say(2, "a", 0, 0, 0, "a1", "a2")
	say(2, "b", 1, 0, 0, "b1")
	say(2, "a", 0, 0, 2, "a3")
	sees(none, none, none)
	say(3, "a", 0, 0, 0)
	sees([]string{"a1", "a2"}, none, []string{"a3"})
	say(2, "a", 0, 0, 0, "a4")
	say(3, "a", 0, 0, 0)
	sees([]string{"a1", "a2"}, none, []string{"a3"})
	say(2, "b", 1, 0, 1, "b2")
	say(1, "b", 0, 0, 0)
	sees([]string{"a1", "a2", "a4"}, none, []string{"a3"})
	say(2, "b", 1, 1, 1, "b3")
	say(2, "a", 0, 0, 1, "a5")
	say(3, "b", 1, 1, 0)
	say(4, "a", 0, 0, 0)
	sees([]string{"a1", "a2", "a4"}, []string{"b3"}, []string{"a3"})
	gone := map[int][]impl.Gone{0: {{Producer: 1, First: 2, Last: 6}}, 1: {{Producer: 1, First: 0, Last: 1}, {Producer: 0, First: 3, Last: 5}}}
	got := map[int][]impl.Gone{}
	for part, l := range s.Logs {
		if list := impl.Aborted(l); len(list) > 0 {
			got[part] = list
		}
	}
	if !maps.EqualFunc(got, gone, slices.Equal) {
		t.Errorf("%+v, not %+v", got, gone)
	}
}
