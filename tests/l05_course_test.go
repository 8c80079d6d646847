package tests

import (
	"math/rand"
	"reflect"
	"slices"
	"strconv"
	"testing"

	"loop.example/g00035/impl"
)

// A stood is a record with the Epoch in which it was written.
type stood struct {
	epoch  int
	record impl.Record
}

func stoodIn(list []impl.Batch) map[int]stood {
	all := map[int]stood{}
	for _, x := range linesOf(impl.Log{Segments: []impl.Segment{{Batches: list}}}) {
		all[x.offset] = stood{x.batch.Epoch, x.record}
	}
	return all
}

// A watch remembers what a part once told, along a course of ops.
type watch struct {
	safe    map[int]stood
	leaders map[int]int
	writer  map[int]stood
	epoch   int
	forced  bool
}

func newWatch() *watch {
	return &watch{safe: map[int]stood{}, leaders: map[int]int{}, writer: map[int]stood{}}
}

// look holds a part against all that was told ahead of it.
func (w *watch) look(t *testing.T, p impl.Part) {
	t.Helper()
	if p.Epoch < w.epoch {
		t.Fatalf("the Epoch %d is behind %d", p.Epoch, w.epoch)
	}
	w.epoch = p.Epoch
	if p.Leader < 0 {
		return
	}
	if leader, ok := w.leaders[p.Epoch]; ok && leader != p.Leader {
		t.Fatalf("%d and %d lead in the Epoch %d", leader, p.Leader, p.Epoch)
	}
	w.leaders[p.Epoch] = p.Leader
	if w.forced {
		return
	}
	log := stoodIn(allBatches(p.Replicas[p.Leader].Log))
	for offset, x := range w.safe {
		if !reflect.DeepEqual(log[offset], x) {
			t.Fatalf("%d leads in the Epoch %d, and has %+v at %d, where %+v was safe", p.Leader, p.Epoch, log[offset], offset, x)
		}
	}
	for offset, x := range stoodIn(impl.Safe(p)) {
		w.safe[offset] = x
	}
}

// courseOp is an op for a long course: mostly writes and fetches, each record unlike all others.
func courseOp(r *rand.Rand, p impl.Part, turn int) impl.PartOp {
	kinds := []int{1, 1, 1, 2, 2, 2, 2, 2, 3, 4, 4, 5, 7, 8, 8}
	if p.Leader < 0 {
		kinds = []int{5, 5, 7, 8}
	}
	op := do(pick(r, kinds...), r.Intn(len(p.Replicas)))
	if op.Kind == impl.PartWrite {
		for i := range 1 + r.Intn(3) {
			op.Records = append(op.Records, impl.Record{Time: turn, Value: strconv.Itoa(turn) + "." + strconv.Itoa(i)})
		}
	}
	return op
}

// step does an op of a course, but for two that the document's words take and that its promises 8 and 10 do not outlive.
func step(p impl.Part, op impl.PartOp) impl.Part {
	x, _ := impl.DoPart(p, op)
	if joinsUnheard(p, op) || cutsWithin(p, x, op) {
		return p
	}
	return x
}

// joinsUnheard: PartJoin asks for no more than the leader's Mark, which behind an election may be below what an earlier leader told as safe; so one may join that has none of it.
func joinsUnheard(p impl.Part, op impl.PartOp) bool {
	if op.Kind != impl.PartJoin || p.Leader < 0 {
		return false
	}
	_, had := impl.EndOf(p.Replicas[p.Leader].Log, p.Epoch-1)
	return p.Known[op.At] < had
}

// cutsWithin: a fetch that leaves the first records of a batch; from another leader, that has all of the batch, the follower would never take the others, for that batch's Base is below its Next.
func cutsWithin(p impl.Part, x impl.Part, op impl.PartOp) bool {
	if op.Kind != impl.PartFetch {
		return false
	}
	was, left := allBatches(p.Replicas[op.At].Log), allBatches(x.Replicas[op.At].Log)
	last := len(left) - 1
	return last >= 0 && last < len(was) && len(left[last].Records) < len(was[last].Records)
}

func courses(r *rand.Rand, count int, each func(p impl.Part)) {
	for range count {
		replicas := 2 + r.Intn(4)
		each(impl.NewPart(replicas, 1+r.Intn(2), pick(r, 1, 40, 200, impl.MaxRoll)))
	}
}

// Promises 8 and 9: what was once told as safe stands in every later leader's log at its offset; of each Epoch there is one leader, and Epochs never fall.
func TestWhatIsSafeStandsInEveryLaterLeadersLog(t *testing.T) {
	r := rand.New(rand.NewSource(63))
	elections, safe := 0, 0
	courses(r, 300, func(p impl.Part) {
		w := newWatch()
		w.look(t, p)
		for turn := range 220 {
			p = step(p, courseOp(r, p, turn))
			w.look(t, p)
		}
		elections += len(w.leaders)
		safe += len(w.safe)
	})
	if elections < 2000 || safe < 5000 {
		t.Error("the courses to try are too quiet:", elections, safe)
	}
}

// Promise 9, with leaders that are forced too: each that comes to lead has the next Epoch, whoever led ahead of it, and whatever is written bears it.
func TestOfEachEpochThereIsOneLeader(t *testing.T) {
	r := rand.New(rand.NewSource(64))
	courses(r, 150, func(p impl.Part) {
		w := newWatch()
		w.forced = true
		for turn := range 150 {
			op := courseOp(r, p, turn)
			if r.Intn(20) == 0 {
				op = do(impl.PartForce, r.Intn(len(p.Replicas)))
			}
			x, told := impl.DoPart(p, op)
			rise := 0
			if told.Code == impl.PartDone && (op.Kind == impl.PartElect || op.Kind == impl.PartForce) {
				rise = 1
			}
			if x.Epoch != p.Epoch+rise || rise == 1 && x.Leader != op.At || rise == 0 && x.Leader >= 0 && x.Leader != p.Leader {
				t.Fatalf("%+v: %d leads in the Epoch %d, behind %d in %d", op, x.Leader, x.Epoch, p.Leader, p.Epoch)
			}
			p = x
			w.look(t, p)
			mustBeWrittenOnce(t, w, p)
		}
	})
}

// mustBeWrittenOnce: no two logs have unlike records of one Epoch at an offset, now or ever.
func mustBeWrittenOnce(t *testing.T, w *watch, p impl.Part) {
	t.Helper()
	for at, x := range p.Replicas {
		for offset, s := range stoodIn(allBatches(x.Log)) {
			key := s.epoch*1000 + offset
			if was, ok := w.writer[key]; ok && !reflect.DeepEqual(was, s) {
				t.Fatalf("replica %d has %+v at %d, another had %+v in that Epoch", at, s, offset, was)
			}
			w.writer[key] = s
		}
	}
}

// Promise 10: whatever went ahead, a replica that fetches twice for each Epoch, and twice more, has the leader's batches.
func TestReplicasThatFetchHaveTheLeadersBatches(t *testing.T) {
	r := rand.New(rand.NewSource(65))
	caught, apart := 0, 0
	courses(r, 250, func(p impl.Part) {
		forces := r.Intn(2) == 0
		for turn := range 120 {
			op := courseOp(r, p, turn)
			if forces && r.Intn(12) == 0 {
				op = do(impl.PartForce, r.Intn(len(p.Replicas)))
			}
			p = step(p, op)
		}
		if p.Leader < 0 {
			return
		}
		lead := p.Replicas[p.Leader].Log
		for at, x := range p.Replicas {
			if !x.Up || at == p.Leader {
				continue
			}
			if _, told := impl.DoPart(p, do(impl.PartFetch, at)); told.Code != impl.PartDone {
				t.Fatalf("a fetch is told %+v", told)
			}
			if !sameLog(x.Log, lead) {
				apart++
			}
			y, _ := impl.RunPart(p, slices.Repeat([]impl.PartOp{do(impl.PartFetch, at)}, min(2*p.Epoch+2, impl.MaxPartOps)))
			if log := y.Replicas[at].Log; !sameLog(log, lead) || y.Known[at] != lead.Next {
				t.Fatalf("replica %d has %+v, the leader %+v", at, log, lead)
			}
			caught++
		}
	})
	if caught < 200 || apart < 100 {
		t.Error("the courses to try are too quiet:", caught, apart)
	}
}

// What a course that is told step by step comes to, all ops at once come to.
func runAsTold(p impl.Part, ops []impl.PartOp) (impl.Part, []impl.PartTold) {
	list := []impl.PartTold{}
	for _, op := range ops {
		x, told := impl.DoPart(p, op)
		if told.Code == impl.PartDone {
			p = x
		}
		list = append(list, told)
	}
	return p, list
}

func mustRun(t *testing.T, name string, p impl.Part, ops []impl.PartOp) impl.Part {
	t.Helper()
	x, list := impl.RunPart(p, ops)
	want, wants := runAsTold(p, ops)
	if !slices.Equal(list, wants) || !samePart(x, want) {
		t.Fatalf("%s: told %+v\n%+v\nnot %+v\n%+v", name, list, x, wants, want)
	}
	return x
}

func TestRunPart(t *testing.T) {
	r := rand.New(rand.NewSource(66))
	for range 300 {
		p := randomPart(r)
		ops := []impl.PartOp{}
		for range r.Intn(20) {
			ops = append(ops, randomOp(r, len(p.Replicas)))
		}
		mustRun(t, "at random", p, ops)
	}
	courses(r, 30, func(p impl.Part) {
		ops := []impl.PartOp{}
		for turn := range 300 {
			ops = append(ops, courseOp(r, p, turn))
		}
		mustRun(t, "a course", p, ops)
	})
	p := impl.NewPart(3, 1, 500)
	if x := mustRun(t, "no ops", p, nil); !samePart(x, p) {
		t.Errorf("no ops: %+v", x)
	}
	mixed := []impl.PartOp{writing(2), {Kind: 9}, do(impl.PartFetch, 3), do(impl.PartFetch, 1), {Kind: 2, At: 1, Records: records(1)}, {}, do(impl.PartFetch, 2), writing(0), do(impl.PartUp, 2), writing(1)}
	x, list := impl.RunPart(p, mixed)
	codes := []int{}
	for _, told := range list {
		codes = append(codes, told.Code)
	}
	if !slices.Equal(codes, []int{0, 1, 1, 0, 1, 1, 0, 4, 2, 0}) || list[1].Mark != -1 || list[7].Mark != 2 || list[9].Offset != 2 {
		t.Errorf("ops that may not be, among others: %+v", list)
	}
	if len(allBatches(x.Replicas[0].Log)) != 2 || !samePart(x, mustRun(t, "mixed", p, mixed)) {
		t.Errorf("behind them: %+v", x)
	}
}

func TestRunPartUpToMaxPartOps(t *testing.T) {
	p := impl.NewPart(2, 1, impl.MaxRoll)
	for _, op := range []impl.PartOp{writing(1), do(impl.PartFetch, 1), {Kind: 9}} {
		x, list := impl.RunPart(p, slices.Repeat([]impl.PartOp{op}, 300))
		if len(list) != 300 || !impl.PartOk(x) || op.Kind == impl.PartWrite && x.Replicas[0].Log.Next != 300 {
			t.Errorf("MaxPartOps: %d told", len(list))
		}
		for _, count := range []int{301, 302, 1000} {
			x, list = impl.RunPart(p, slices.Repeat([]impl.PartOp{op}, count))
			if len(list) != 0 || !samePart(x, impl.Part{}) {
				t.Errorf("%d ops: %d told, %+v", count, len(list), x)
			}
		}
	}
	mustRefusePart(t, "the zero value", impl.Part{})
}

func safeAsTold(p impl.Part) []impl.Batch {
	list := []impl.Batch{}
	if !partOkAsTold(p) || p.Leader < 0 {
		return list
	}
	lead := p.Replicas[p.Leader]
	for _, b := range allBatches(lead.Log) {
		b.Records = b.Records[:max(0, min(len(b.Records), lead.Mark-b.Base))]
		if len(b.Records) > 0 && b.Base+len(b.Records) > lead.Log.Start {
			list = append(list, b)
		}
	}
	return list
}

func TestSafe(t *testing.T) {
	lead := gappy()
	lead.Segments[1].Batches[1] = inEpoch(14, 3, 4)
	lead.Segments[2].Batches[0] = producersOwn(22)
	lead.Segments[2].Batches[0].Epoch = 4
	tell := func(start int, mark int) []impl.Batch {
		p := marked(mark, 0, pair(from(start, lead), epochLog()))
		list := impl.Safe(p)
		if !slices.EqualFunc(list, safeAsTold(p), sameBatch) {
			t.Errorf("Start %d, Mark %d: %+v, not %+v", start, mark, list, safeAsTold(p))
		}
		return list
	}
	for start := 0; start <= 30; start++ {
		for mark := start; mark <= 30; mark++ {
			tell(start, mark)
		}
	}
	bases := func(list []impl.Batch) []int { return basesOf(impl.Log{Segments: []impl.Segment{{Batches: list}}}) }
	for _, x := range []struct {
		name  string
		start int
		mark  int
		bases []int
		last  int
	}{
		{"all", 0, 30, []int{2, 6, 10, 14, 22}, 2},
		{"nothing", 3, 3, nil, 0},
		{"all from Start on is behind the Mark", 0, 2, nil, 0},
		{"one record", 0, 3, []int{2}, 1},
		{"a whole batch", 0, 5, []int{2}, 3},
		{"up to a gap's end", 0, 6, []int{2}, 3},
		{"a batch that reaches beyond", 0, 15, []int{2, 6, 10, 14}, 1},
		{"by one", 0, 17, []int{2, 6, 10, 14}, 3},
		{"one of a producer's", 0, 23, []int{2, 6, 10, 14, 22}, 1},
		{"batches below Start", 8, 18, []int{10, 14}, 4},
		{"a batch with records below Start", 7, 11, []int{6, 10}, 1},
		{"such a one that reaches beyond too", 15, 17, []int{14}, 3},
		{"such a one, all of it behind the Mark", 15, 15, nil, 0},
	} {
		list := tell(x.start, x.mark)
		if !slices.Equal(bases(list), append([]int{}, x.bases...)) || len(list) > 0 && len(list[len(list)-1].Records) != x.last {
			t.Errorf("%s: %+v", x.name, list)
		}
	}
	p := marked(30, 0, pair(lead, epochLog(1, 2)))
	p.Leader = -1
	if list := impl.Safe(p); len(list) != 0 {
		t.Errorf("without a leader: %+v", list)
	}
	p.Leader, p.Insync, p.Replicas[1].Mark = 1, []int{1}, 3
	if list := impl.Safe(p); !slices.Equal(bases(list), []int{0, 2}) || len(list[1].Records) != 1 || list[1].Epoch != 2 {
		t.Errorf("another leads: %+v", list)
	}
	p.Known[0] = -1
	if list := impl.Safe(p); len(list) != 0 {
		t.Errorf("not right: %+v", list)
	}
}

func TestSafeIsAsTold(t *testing.T) {
	r := rand.New(rand.NewSource(67))
	told := 0
	for range 3000 {
		p := randomPart(r)
		if r.Intn(10) == 0 {
			spoilPart(r, &p)
		}
		list := impl.Safe(p)
		if !slices.EqualFunc(list, safeAsTold(p), sameBatch) {
			t.Fatalf("%+v, not %+v: %+v", list, safeAsTold(p), p)
		}
		told += len(list)
	}
	if told < 2000 {
		t.Error("the parts to try have too little that is safe:", told)
	}
}

// A new leader hears anew of all: what an earlier one knew of a replica may have gone since.
func TestKnownIsOfTheLeaderThatHeardIt(t *testing.T) {
	p := impl.NewPart(3, 1, 500)
	p = course(t, p, writing(1), do(impl.PartFetch, 1), do(impl.PartFetch, 2), writing(2), do(impl.PartFetch, 2), do(impl.PartElect, 1))
	p = mustDo(t, "the new leader writes", p, writing(2), impl.PartDone, 0)
	if p.Replicas[2].Log.Next != 3 || !slices.Equal(p.Known, []int{0, 0, 0}) {
		t.Fatalf("the course went another way: %+v", p)
	}
	p = course(t, p, do(impl.PartDrop, 0))
	if list := impl.Safe(p); len(list) != 0 {
		t.Errorf("safe is %+v, which replica 2 has not", list)
	}
	p = mustDo(t, "cut", p, do(impl.PartFetch, 2), impl.PartDone, 0)
	p = mustDo(t, "taken", p, do(impl.PartFetch, 2), impl.PartDone, 3)
	if !sameLog(p.Replicas[2].Log, p.Replicas[1].Log) || p.Replicas[2].Log.Segments[0].Batches[1].Epoch != 2 {
		t.Errorf("replica 2 has %+v", p.Replicas[2].Log)
	}
}
