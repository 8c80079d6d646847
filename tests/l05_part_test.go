package tests

import (
	"math"
	"math/rand"
	"reflect"
	"slices"
	"testing"

	"loop.example/g00035/impl"
)

func TestLimitsOfReplicas(t *testing.T) {
	if impl.MaxReplicas != 5 || impl.MaxPartOps != 300 {
		t.Error("a limit is another than the document's")
	}
	kinds := []int{impl.PartWrite, impl.PartFetch, impl.PartDrop, impl.PartJoin, impl.PartElect, impl.PartForce, impl.PartDown, impl.PartUp}
	if !slices.Equal(kinds, []int{1, 2, 3, 4, 5, 6, 7, 8}) {
		t.Error("a kind is another than the document's:", kinds)
	}
	codes := []int{impl.PartDone, impl.PartBad, impl.PartNone, impl.PartFew, impl.PartFar}
	if !slices.Equal(codes, []int{0, 1, 2, 3, 4}) {
		t.Error("a code is another than the document's:", codes)
	}
}

// plainPart is a copy of a part in which all empty lists are alike.
func plainPart(p impl.Part) impl.Part {
	out := p
	out.Insync = append([]int{}, p.Insync...)
	out.Known = append([]int{}, p.Known...)
	out.Replicas = []impl.Replica{}
	for _, x := range p.Replicas {
		x.Log = plainLog(x.Log)
		out.Replicas = append(out.Replicas, x)
	}
	return out
}

func samePart(a impl.Part, b impl.Part) bool {
	return reflect.DeepEqual(plainPart(a), plainPart(b))
}

// inEpoch has so many records, from that offset on.
func inEpoch(base int, epoch int, count int) impl.Batch {
	return impl.Batch{Base: base, Epoch: epoch, Producer: -1, Records: records(count)}
}

// epochLog has a batch of two records for each of these Epochs, from 0 on.
func epochLog(epochs ...int) impl.Log {
	l := impl.NewLog(0, impl.MaxRoll)
	if len(epochs) == 0 {
		return l
	}
	l.Segments = []impl.Segment{{}}
	for _, epoch := range epochs {
		l.Segments[0].Batches = append(l.Segments[0].Batches, inEpoch(l.Next, epoch, 2))
		l.Next += 2
	}
	return l
}

// trio is right: a leader, one that is Up and not in Insync, one that is in Insync and not Up.
func trio() impl.Part {
	return impl.Part{
		Replicas: []impl.Replica{{Log: gappy(), Mark: 10, Up: true}, {Log: epochLog(0, 3, 7), Mark: 2, Up: true}, {Log: gappy(), Mark: 3}},
		Leader:   0, Epoch: 7, Insync: []int{0, 2}, Known: []int{0, 5, 30}, Least: 2,
	}
}

func partOkAsTold(p impl.Part) bool {
	n := len(p.Replicas)
	ok := n >= 1 && n <= 5 && p.Epoch >= 0 && p.Epoch <= 1000000 && p.Least >= 1 && p.Least <= 5
	for _, x := range p.Replicas {
		ok = ok && logOkAsTold(x.Log) && x.Mark >= x.Log.Start && x.Mark <= x.Log.Next
		for _, b := range allBatches(x.Log) {
			ok = ok && b.Epoch <= p.Epoch
		}
	}
	ok = ok && len(p.Insync) > 0 && len(p.Known) == n
	for i, at := range p.Insync {
		ok = ok && at >= 0 && at < n && (i == 0 || at > p.Insync[i-1])
	}
	for _, next := range p.Known {
		ok = ok && next >= 0 && next <= 1000000000
	}
	if p.Leader == -1 {
		return ok
	}
	return ok && p.Leader >= 0 && p.Leader < n && p.Replicas[p.Leader].Up && slices.Contains(p.Insync, p.Leader)
}

type partChange = func(p *impl.Part)

func bareReplica() impl.Replica {
	return impl.Replica{Log: impl.NewLog(0, 100), Up: true}
}

func TestPartOkTakes(t *testing.T) {
	for name, do := range map[string]partChange{
		"as it is":                      func(p *impl.Part) {},
		"one replica":                   func(p *impl.Part) { *p = impl.NewPart(1, 1, 9) },
		"MaxReplicas":                   func(p *impl.Part) { *p = impl.NewPart(5, 5, 9) },
		"no leader":                     func(p *impl.Part) { p.Leader = -1 },
		"no leader, all down":           func(p *impl.Part) { p.Leader, p.Replicas[0].Up, p.Replicas[1].Up = -1, false, false },
		"no leader, others in Insync":   func(p *impl.Part) { p.Leader, p.Insync = -1, []int{1} },
		"no leader, the last in Insync": func(p *impl.Part) { p.Leader, p.Insync = -1, []int{2} },
		"the leader alone in Insync":    func(p *impl.Part) { p.Insync = []int{0} },
		"all in Insync":                 func(p *impl.Part) { p.Insync = []int{0, 1, 2} },
		"the last one leads":            func(p *impl.Part) { p.Leader, p.Replicas[2].Up = 2, true },
		"all Up":                        func(p *impl.Part) { p.Replicas[2].Up = true },
		"Epoch 0":                       func(p *impl.Part) { p.Epoch, p.Replicas[1].Log = 0, epochLog(0, 0, 0) },
		"Epoch 0, no batches":           func(p *impl.Part) { *p = impl.NewPart(2, 1, 9); p.Epoch = 0 },
		"greatest Epoch":                func(p *impl.Part) { p.Epoch = impl.MaxEpoch },
		"greatest Epoch in a Log":       func(p *impl.Part) { p.Epoch, p.Replicas[1].Log = impl.MaxEpoch, epochLog(0, 1, impl.MaxEpoch) },
		"Known 0":                       func(p *impl.Part) { p.Known = []int{0, 0, 0} },
		"Known the greatest offset":     func(p *impl.Part) { p.Known = []int{impl.MaxOffset, impl.MaxOffset, impl.MaxOffset} },
		"Least 1":                       func(p *impl.Part) { p.Least = 1 },
		"Least MaxReplicas":             func(p *impl.Part) { p.Least = 5 },
		"Mark at Start":                 func(p *impl.Part) { p.Replicas[0].Mark, p.Replicas[1].Mark = 3, 0 },
		"Mark at Next":                  func(p *impl.Part) { p.Replicas[0].Mark, p.Replicas[1].Mark, p.Replicas[2].Mark = 30, 6, 30 },
		"a last segment without":        func(p *impl.Part) { p.Replicas[2].Log = withEmpty(gappy(), 27) },
		"the greatest Log":              func(p *impl.Part) { p.Replicas[2].Log = ladder(40, 10) },
	} {
		p := trio()
		do(&p)
		if !partOkAsTold(p) || !impl.PartOk(p) {
			t.Errorf("refused: %s", name)
		}
	}
}

// badParts are not right, each for one reason.
func badParts() map[string]partChange {
	list := map[string]partChange{
		"the zero value":              func(p *impl.Part) { *p = impl.Part{} },
		"no replicas":                 func(p *impl.Part) { p.Replicas, p.Leader = nil, -1 },
		"no replicas, nothing known":  func(p *impl.Part) { p.Replicas, p.Leader, p.Known, p.Insync = nil, -1, nil, nil },
		"Leader below -1":             func(p *impl.Part) { p.Leader = -2 },
		"Leader the least number":     func(p *impl.Part) { p.Leader = math.MinInt },
		"Leader beyond":               func(p *impl.Part) { p.Leader = 3 },
		"Leader the greatest number":  func(p *impl.Part) { p.Leader = math.MaxInt },
		"Leader not Up":               func(p *impl.Part) { p.Leader = 2 },
		"a leader that went down":     func(p *impl.Part) { p.Replicas[0].Up = false },
		"Leader not in Insync":        func(p *impl.Part) { p.Leader = 1 },
		"all but it in Insync":        func(p *impl.Part) { p.Insync = []int{1, 2} },
		"Epoch below 0":               func(p *impl.Part) { p.Epoch, p.Replicas[1].Log = -1, epochLog() },
		"Epoch below 0, no batches":   func(p *impl.Part) { *p = impl.NewPart(2, 1, 9); p.Epoch = -1 },
		"Epoch beyond":                func(p *impl.Part) { p.Epoch = impl.MaxEpoch + 1 },
		"Epoch below a Log's":         func(p *impl.Part) { p.Epoch = 6 },
		"Epoch below the leader's":    func(p *impl.Part) { p.Leader, p.Epoch, p.Insync = 1, 6, []int{0, 1} },
		"Epoch below the last one's":  func(p *impl.Part) { p.Replicas[2].Log, p.Replicas[2].Mark = epochLog(8), 0 },
		"Epoch below its last batch":  func(p *impl.Part) { p.Replicas[1].Log = epochLog(0, 0, 0, 8) },
		"Epoch below one, then empty": func(p *impl.Part) { p.Replicas[1].Log = withEmpty(epochLog(0, 0, 8), 6) },
		"Insync empty":                func(p *impl.Part) { p.Insync = nil },
		"Insync empty, no leader":     func(p *impl.Part) { p.Leader, p.Insync = -1, []int{} },
		"Insync falling":              func(p *impl.Part) { p.Insync = []int{2, 0} },
		"Insync with one twice":       func(p *impl.Part) { p.Insync = []int{0, 0} },
		"the last one twice":          func(p *impl.Part) { p.Insync = []int{0, 2, 2} },
		"Insync with none below":      func(p *impl.Part) { p.Insync = []int{-1, 0} },
		"Insync with none beyond":     func(p *impl.Part) { p.Insync = []int{0, 3} },
		"none alone":                  func(p *impl.Part) { p.Leader, p.Insync = -1, []int{3} },
		"the greatest number":         func(p *impl.Part) { p.Insync = []int{0, math.MaxInt} },
		"one more than all":           func(p *impl.Part) { p.Insync = []int{0, 1, 2, 3} },
		"Known empty":                 func(p *impl.Part) { p.Known = nil },
		"Known one less":              func(p *impl.Part) { p.Known = []int{0, 5} },
		"Known one more":              func(p *impl.Part) { p.Known = []int{0, 5, 30, 0} },
		"Known below 0":               func(p *impl.Part) { p.Known[0] = -1 },
		"the last one below 0":        func(p *impl.Part) { p.Known[2] = -1 },
		"Known beyond":                func(p *impl.Part) { p.Known[1] = impl.MaxOffset + 1 },
		"Least 0":                     func(p *impl.Part) { p.Least = 0 },
		"Least below 0":               func(p *impl.Part) { p.Least = -1 },
		"Least beyond":                func(p *impl.Part) { p.Least = 6 },
		"Mark below Start":            func(p *impl.Part) { p.Replicas[0].Mark = 2 },
		"another's":                   func(p *impl.Part) { p.Replicas[1].Mark = -1 },
		"the last one's":              func(p *impl.Part) { p.Replicas[2].Mark = 2 },
		"Mark beyond Next":            func(p *impl.Part) { p.Replicas[0].Mark = 31 },
		"another's beyond":            func(p *impl.Part) { p.Replicas[1].Mark = 7 },
		"the last one's beyond":       func(p *impl.Part) { p.Replicas[2].Mark = 31 },
		"one replica too many": func(p *impl.Part) {
			for range 3 {
				p.Replicas, p.Known = append(p.Replicas, bareReplica()), append(p.Known, 0)
			}
		},
	}
	for name, do := range badLogs() {
		for at := range 3 {
			list["replica "+string(rune('0'+at))+": "+name] = func(p *impl.Part) {
				p.Replicas[at].Log = gappy()
				do(&p.Replicas[at].Log)
				p.Replicas[at].Mark = p.Replicas[at].Log.Start
			}
		}
	}
	return list
}

// What is not right is refused by every function that takes a part, with the fixed answer of each.
func TestWhatIsNotAPartIsRefused(t *testing.T) {
	for name, do := range badParts() {
		p := trio()
		do(&p)
		if partOkAsTold(p) || impl.PartOk(p) {
			t.Errorf("taken: %s", name)
		}
		mustRefusePart(t, name, p)
	}
}

func mustRefusePart(t *testing.T, name string, p impl.Part) {
	t.Helper()
	bad := impl.PartTold{Code: impl.PartBad, Offset: -1, Mark: -1}
	for kind := range 10 {
		for _, op := range []impl.PartOp{{Kind: kind}, {Kind: kind, At: 1}, {Kind: kind, At: 2, Records: records(1)}} {
			if x, told := impl.DoPart(p, op); told != bad || !samePart(x, impl.Part{}) {
				t.Errorf("DoPart %d, %s: %+v", kind, name, told)
			}
		}
	}
	for _, count := range []int{0, 1, 301} {
		if x, list := impl.RunPart(p, make([]impl.PartOp, count)); len(list) != 0 || !samePart(x, impl.Part{}) {
			t.Errorf("RunPart, %s: %+v", name, list)
		}
	}
	if list := impl.Safe(p); len(list) != 0 {
		t.Errorf("Safe, %s: %+v", name, list)
	}
}

func TestNewPart(t *testing.T) {
	odd := []int{math.MinInt, -1, 0, 1, 2, 3, 4, 5, 6, math.MaxInt}
	for _, replicas := range odd {
		for _, least := range odd {
			for _, roll := range []int{math.MinInt, -1, 0, 1, 2, 500, 20000, 20001, math.MaxInt} {
				p, want := impl.NewPart(replicas, least, roll), impl.Part{}
				if replicas >= 1 && replicas <= 5 && least >= 1 && least <= replicas && roll >= 1 && roll <= 20000 {
					want = impl.Part{Leader: 0, Epoch: 1, Least: least, Insync: []int{0, 1, 2, 3, 4}[:replicas], Known: make([]int, replicas)}
					for range replicas {
						want.Replicas = append(want.Replicas, impl.Replica{Log: impl.Log{Roll: roll}, Up: true})
					}
				}
				if !samePart(p, want) || impl.PartOk(p) != (want.Epoch == 1) {
					t.Errorf("NewPart(%d, %d, %d) is %+v", replicas, least, roll, p)
				}
			}
		}
	}
}

func endOfAsTold(l impl.Log, epoch int) (int, int) {
	if !logOkAsTold(l) {
		return 0, 0
	}
	greatest, end := -1, l.Next
	for _, b := range allBatches(l) {
		if b.Epoch <= epoch {
			greatest = max(greatest, b.Epoch)
		} else {
			end = min(end, b.Base)
		}
	}
	if greatest < 0 {
		return 0, l.Start
	}
	return greatest, end
}

func TestEndOf(t *testing.T) {
	epochs := epochLog(2, 2, 5, 9, 9)
	epochs.Next = 20
	low := from(3, epochs)
	// A first segment may have all of an Epoch below Start.
	gaps := from(12, gappy())
	setEpochs(&gaps, 1, 1, 4, 4, 6)
	over := withEmpty(gaps, 27)
	most := epochLog(0, impl.MaxEpoch)
	for _, x := range []struct {
		name  string
		log   impl.Log
		epoch int
		found int
		end   int
	}{
		{"below all", epochs, 1, 0, 0},
		{"0, below all", epochs, 0, 0, 0},
		{"below 0", epochs, -1, 0, 0},
		{"the least number", epochs, math.MinInt, 0, 0},
		{"just the first", epochs, 2, 2, 4},
		{"between two", epochs, 3, 2, 4},
		{"right below one", epochs, 4, 2, 4},
		{"just one in the midst", epochs, 5, 5, 6},
		{"between the last two", epochs, 8, 5, 6},
		{"just the last", epochs, 9, 9, 20},
		{"above all", epochs, 10, 9, 20},
		{"the greatest number", epochs, math.MaxInt, 9, 20},
		{"below all, above 0", low, 1, 0, 3},
		{"from Start on", low, 2, 2, 4},
		{"an end below Start", gaps, 1, 1, 10},
		{"an end below Start, between", gaps, 3, 1, 10},
		{"an end above Start", gaps, 5, 4, 22},
		{"the last, ahead of Next", gaps, 6, 6, 30},
		{"below all, Start above batches", gaps, 0, 0, 12},
		{"a last segment without batches", over, 5, 4, 22},
		{"the last ahead of such a segment", over, 7, 6, 30},
		{"no batches", impl.NewLog(7, 9), 3, 0, 7},
		{"no batches, Next above Start", impl.Log{Start: 4, Next: 9, Roll: 1}, 3, 0, 4},
		{"a segment alone", impl.Log{Start: 4, Next: 9, Roll: 1, Segments: []impl.Segment{{Base: 6}}}, 3, 0, 4},
		{"Epoch 0", epochLog(0, 0, 1), 0, 0, 4},
		{"Epoch 0 of all", epochLog(0, 0), 5, 0, 4},
		{"below the greatest", most, impl.MaxEpoch - 1, 0, 2},
		{"the greatest", most, impl.MaxEpoch, impl.MaxEpoch, 4},
	} {
		if found, end := impl.EndOf(x.log, x.epoch); found != x.found || end != x.end {
			t.Errorf("%s: %d %d, not %d %d", x.name, found, end, x.found, x.end)
		}
	}
	for name, do := range badLogs() {
		l := gappy()
		do(&l)
		for _, epoch := range []int{-1, 0, 1, math.MaxInt} {
			if found, end := impl.EndOf(l, epoch); found != 0 || end != 0 {
				t.Errorf("%s: %d %d", name, found, end)
			}
		}
	}
}

// Promise 10: EndOf parts a log by Epochs. Where no Epoch is so low it tells Start, and Start says nothing of batches that stand below it.
func TestEndOfPartsALogByEpochs(t *testing.T) {
	r := rand.New(rand.NewSource(60))
	parted := 0
	for range 2000 {
		l := randomLog(r)
		all := allBatches(l)
		for epoch := -1; epoch < 40; epoch++ {
			found, end := impl.EndOf(l, epoch)
			if f, e := endOfAsTold(l, epoch); f != found || e != end {
				t.Fatalf("EndOf %d: %d %d, not %d %d: %+v", epoch, found, end, f, e, l)
			}
			ahead := 0
			for _, b := range all {
				if b.Epoch <= epoch {
					ahead++
				}
			}
			if ahead == 0 {
				continue
			}
			parted++
			for i, b := range all {
				if (b.Base < end) != (i < ahead) {
					t.Fatalf("EndOf %d is %d: Epoch %d at %d", epoch, end, b.Epoch, b.Base)
				}
			}
			if all[ahead-1].Epoch != found {
				t.Fatalf("EndOf %d: Epoch %d, not %d", epoch, found, all[ahead-1].Epoch)
			}
		}
	}
	if parted < 2000 {
		t.Error("the logs to try are too much alike:", parted)
	}
}

// kinLog is a log that has much in common with another, and something of its own.
func kinLog(r *rand.Rand, l impl.Log) impl.Log {
	l = plainLog(l)
	switch r.Intn(9) {
	case 0:
		l = randomLog(r)
	case 1, 2, 3:
		l = plainLog(cutToAsTold(l, l.Start+r.Intn(l.Next-l.Start+1)))
	case 4:
		l = plainLog(cutFromAsTold(l, l.Start+r.Intn(l.Next-l.Start+1)))
	case 5:
		l = impl.NewLog(pick(r, 0, l.Start, l.Next, r.Intn(l.Next+1)), l.Roll)
	case 6:
		l.Next += r.Intn(4)
	}
	if r.Intn(3) == 0 {
		l.Roll = pick(r, 1, 40, 100, impl.MaxRoll)
	}
	more := 0
	if all := allBatches(l); len(all) > 0 {
		more = all[len(all)-1].Epoch
	}
	for range pick(r, 0, 0, 0, 1, 2, 3) {
		b := logBatch(r)
		more += pick(r, 0, 0, 1)
		b.Epoch = more
		l, _ = appendAsTold(l, b)
	}
	if s, b := somewhere(r, &l); r.Intn(4) == 0 {
		b.Records = b.Records[:1+r.Intn(len(b.Records))]
		if r.Intn(2) == 0 && len(s.Batches) > 1 {
			s.Batches = s.Batches[1:]
		}
	}
	return l
}

// randomPart is always right: its logs are kin, all else is at random.
func randomPart(r *rand.Rand) impl.Part {
	p := impl.Part{Leader: -1, Least: pick(r, 1, 1, 2, 3, 5)}
	root := randomLog(r)
	for at := range 1 + r.Intn(5) {
		x := impl.Replica{Log: kinLog(r, root), Up: r.Intn(5) > 0}
		x.Mark = pick(r, x.Log.Start, x.Log.Next, x.Log.Start+r.Intn(x.Log.Next-x.Log.Start+1))
		for _, b := range allBatches(x.Log) {
			p.Epoch = max(p.Epoch, b.Epoch)
		}
		p.Replicas = append(p.Replicas, x)
		p.Known = append(p.Known, pick(r, 0, x.Log.Next, x.Log.Next, r.Intn(x.Log.Next+1), impl.MaxOffset))
		if r.Intn(3) > 0 {
			p.Insync = append(p.Insync, at)
		}
	}
	if len(p.Insync) == 0 {
		p.Insync = []int{r.Intn(len(p.Replicas))}
	}
	if at := pick(r, p.Insync...); r.Intn(5) > 0 {
		p.Leader, p.Replicas[at].Up = at, true
	}
	p.Epoch = pick(r, p.Epoch, p.Epoch+1, p.Epoch+5, impl.MaxEpoch)
	return p
}

// spoilPart changes one thing of a part, mostly so that it is right no more.
func spoilPart(r *rand.Rand, p *impl.Part) {
	at := r.Intn(len(p.Replicas))
	x := &p.Replicas[at]
	switch r.Intn(9) {
	case 0:
		p.Leader = pick(r, -2, -1, at, len(p.Replicas))
	case 1:
		p.Epoch = pick(r, -1, 0, p.Epoch-1, p.Epoch-6, impl.MaxEpoch+1)
	case 2:
		p.Insync = pick(r, nil, []int{at}, []int{at, at}, []int{1, 0}, []int{0, len(p.Replicas)}, []int{-1, 0}, p.Insync[1:])
	case 3:
		p.Known = pick(r, p.Known[1:], append(p.Known, 0))
	case 4:
		p.Known[at] = pick(r, -1, impl.MaxOffset, impl.MaxOffset+1)
	case 5:
		p.Least = pick(r, -1, 0, 1, 5, 6)
	case 6:
		x.Mark = pick(r, x.Log.Start-1, x.Log.Start, x.Log.Next, x.Log.Next+1)
	case 7:
		x.Up = !x.Up
	case 8:
		spoilLog(r, &x.Log)
	}
}

func TestPartOkIsAsTold(t *testing.T) {
	r := rand.New(rand.NewSource(61))
	taken, refused := 0, 0
	for range 4000 {
		p := randomPart(r)
		if !partOkAsTold(p) || !impl.PartOk(p) {
			t.Fatalf("refused: %+v", p)
		}
		spoilPart(r, &p)
		want := partOkAsTold(p)
		if impl.PartOk(p) != want {
			t.Fatalf("PartOk is %v: %+v", !want, p)
		}
		if want {
			taken++
			continue
		}
		if refused++; refused%20 == 0 {
			mustRefusePart(t, "at random", p)
		}
	}
	if taken < 800 || refused < 800 {
		t.Error("the parts to try are too much alike:", taken, refused)
	}
}
