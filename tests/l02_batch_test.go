package tests

import (
	"math"
	"math/rand"
	"reflect"
	"slices"
	"strings"
	"testing"

	"loop.example/g00035/impl"
)

func TestLimitsOfBatches(t *testing.T) {
	limits := []int{impl.MaxText, impl.MaxRecords, impl.MaxHeads, impl.MaxEpoch, impl.MaxTurn}
	if !slices.Equal(limits, []int{100, 40, 3, 1000000, 1000}) {
		t.Error("a limit is another than the document's:", limits)
	}
	flags := []int{impl.FlagSqueezed, impl.FlagOpen, impl.FlagMark}
	if !slices.Equal(flags, []int{1, 2, 4}) {
		t.Error("a flag is another than the document's:", flags)
	}
	codes := []int{impl.WireOk, impl.WireShort, impl.WireMagic, impl.WireVersion, impl.WireNumber, impl.WireCheck, impl.WireForm}
	if !slices.Equal(codes, []int{0, 1, 2, 3, 4, 5, 6}) {
		t.Error("a code is another than the document's:", codes)
	}
}

func long(length int) string {
	return strings.Repeat("t", length)
}

func heads(count int) []impl.Head {
	list := make([]impl.Head, count)
	for i := range list {
		list[i] = impl.Head{Key: "h", Value: "w"}
	}
	return list
}

func TestRecordOk(t *testing.T) {
	good := map[string]impl.Record{
		"zero value":              {},
		"time 0":                  {Time: 0, Keyed: true, Key: "k", Value: "v"},
		"time at most":            {Time: impl.MaxTime},
		"an empty Key":            {Keyed: true},
		"an empty Value":          {Keyed: true, Key: "k"},
		"Gone with a Key":         {Keyed: true, Key: "k", Gone: true},
		"Gone without a Key":      {Gone: true},
		"Value without a Key":     {Value: "v"},
		"Key at most":             {Keyed: true, Key: long(100)},
		"Value at most":           {Value: long(100)},
		"texts of any bytes":      {Keyed: true, Key: "\x00\xff\n", Value: "\x80 é", Heads: []impl.Head{{Key: "\x00", Value: "\xff"}}},
		"most Heads":              {Heads: heads(3)},
		"Heads of a Gone one":     {Gone: true, Heads: heads(1)},
		"Head with an empty text": {Heads: []impl.Head{{Key: "h"}}},
		"Head at most":            {Heads: []impl.Head{{Key: long(100), Value: long(100)}}},
		"Heads alike":             {Heads: []impl.Head{{Key: "h", Value: "w"}, {Key: "h", Value: "w"}}},
		"empty list of Heads":     {Heads: []impl.Head{}},
		"all at most":             {Time: impl.MaxTime, Keyed: true, Key: long(100), Value: long(100), Heads: []impl.Head{{Key: long(100), Value: long(100)}, {Key: long(100), Value: long(100)}, {Key: long(100), Value: long(100)}}},
	}
	for name, r := range good {
		if !impl.RecordOk(r) || !recordOkAsTold(r) {
			t.Errorf("refused: %s", name)
		}
	}
	bad := map[string]impl.Record{
		"time -1":               {Time: -1},
		"time beyond":           {Time: impl.MaxTime + 1},
		"greatest number":       {Time: math.MaxInt},
		"least number":          {Time: math.MinInt},
		"Key without Keyed":     {Key: "k"},
		"Value with Gone":       {Gone: true, Value: "v"},
		"Value with Keyed Gone": {Keyed: true, Key: "k", Gone: true, Value: "v"},
		"Key too long":          {Keyed: true, Key: long(101)},
		"long Key, not Keyed":   {Key: long(101)},
		"Value too long":        {Value: long(101)},
		"four Heads":            {Heads: heads(4)},
		"Head without a Key":    {Heads: []impl.Head{{Value: "w"}}},
		"the zero Head":         {Heads: []impl.Head{{}}},
		"a later Head bad":      {Heads: []impl.Head{{Key: "h"}, {Key: "h"}, {}}},
		"Head's Key too long":   {Heads: []impl.Head{{Key: long(101)}}},
		"Head's Value too long": {Heads: []impl.Head{{Key: "h", Value: long(101)}}},
	}
	for name, r := range bad {
		if impl.RecordOk(r) || recordOkAsTold(r) {
			t.Errorf("taken: %s", name)
		}
		if b := (impl.Batch{Producer: -1, Records: []impl.Record{{}, r, {}}}); impl.BatchOk(b) || impl.LastOffset(b) != -1 {
			t.Errorf("taken in a batch: %s", name)
		}
	}
}

func records(count int) []impl.Record {
	list := make([]impl.Record, count)
	for i := range list {
		list[i] = impl.Record{Time: i, Keyed: true, Key: "k", Value: "v"}
	}
	return list
}

// ordinary is right whatever one field is changed to within its bounds: it has a producer and no flags.
func ordinary() impl.Batch {
	return impl.Batch{Base: 5, Epoch: 2, Producer: 9, Turn: 1, Seq: 4, Records: records(2)}
}

func marker(key string) impl.Batch {
	return impl.Batch{Base: 5, Epoch: 2, Producer: 9, Turn: 1, Flags: impl.FlagOpen + impl.FlagMark, Records: []impl.Record{{Time: 3, Keyed: true, Key: key}}}
}

type change = func(b *impl.Batch)

func alone(b *impl.Batch) {
	b.Producer, b.Turn, b.Seq = -1, 0, 0
}

func TestBatchOkTakes(t *testing.T) {
	good := map[string]change{
		"ordinary":               func(b *impl.Batch) {},
		"least Base":             func(b *impl.Batch) { b.Base = 0 },
		"last offset at most":    func(b *impl.Batch) { b.Base = impl.MaxOffset - 1 },
		"Base at most":           func(b *impl.Batch) { b.Base, b.Records = impl.MaxOffset, records(1) },
		"40 up to the most":      func(b *impl.Batch) { b.Base, b.Records = impl.MaxOffset-39, records(40) },
		"least Epoch":            func(b *impl.Batch) { b.Epoch = 0 },
		"Epoch at most":          func(b *impl.Batch) { b.Epoch = 1000000 },
		"least Producer":         func(b *impl.Batch) { b.Producer = 0 },
		"Producer at most":       func(b *impl.Batch) { b.Producer = impl.MaxOffset },
		"no Producer":            alone,
		"least Turn":             func(b *impl.Batch) { b.Turn = 0 },
		"Turn at most":           func(b *impl.Batch) { b.Turn = 1000 },
		"least Seq":              func(b *impl.Batch) { b.Seq = 0 },
		"last number at most":    func(b *impl.Batch) { b.Seq = impl.MaxOffset - 1 },
		"Seq at most":            func(b *impl.Batch) { b.Seq, b.Records = impl.MaxOffset, records(1) },
		"40 numbers to the most": func(b *impl.Batch) { b.Seq, b.Records = impl.MaxOffset-39, records(40) },
		"one record":             func(b *impl.Batch) { b.Records = records(1) },
		"most records":           func(b *impl.Batch) { b.Records = records(40) },
		"Times that fall":        func(b *impl.Batch) { b.Records[0].Time, b.Records[1].Time = impl.MaxTime, 0 },
		"squeezed":               func(b *impl.Batch) { b.Flags = 1 },
		"open":                   func(b *impl.Batch) { b.Flags = 2 },
		"open and squeezed":      func(b *impl.Batch) { b.Flags = 3 },
		"squeezed, no Producer":  func(b *impl.Batch) { alone(b); b.Flags = 1 },
		"a marker's Key alone":   func(b *impl.Batch) { b.Records[0].Key = "commit" },
		"commit":                 func(b *impl.Batch) { *b = marker("commit") },
		"abort":                  func(b *impl.Batch) { *b = marker("abort") },
		"a marker, squeezed":     func(b *impl.Batch) { *b = marker("abort"); b.Flags = 7 },
		"a marker with a Seq":    func(b *impl.Batch) { *b = marker("abort"); b.Seq = 8 },
	}
	for name, do := range good {
		b := ordinary()
		do(&b)
		if !impl.BatchOk(b) || !batchOkAsTold(b) {
			t.Errorf("refused: %s", name)
		}
		if impl.LastOffset(b) != b.Base+len(b.Records)-1 {
			t.Errorf("%s: the last offset is %d", name, impl.LastOffset(b))
		}
	}
}

// badBatches are refused by BatchOk, each for one reason.
func badBatches() map[string]change {
	return map[string]change{
		"Base below 0":                 func(b *impl.Batch) { b.Base = -1 },
		"last offset beyond":           func(b *impl.Batch) { b.Base = impl.MaxOffset },
		"Base beyond":                  func(b *impl.Batch) { b.Base, b.Records = impl.MaxOffset+1, records(1) },
		"40 beyond the most":           func(b *impl.Batch) { b.Base, b.Records = impl.MaxOffset-38, records(40) },
		"greatest Base":                func(b *impl.Batch) { b.Base = math.MaxInt },
		"least number as Base":         func(b *impl.Batch) { b.Base = math.MinInt },
		"Epoch below 0":                func(b *impl.Batch) { b.Epoch = -1 },
		"Epoch beyond":                 func(b *impl.Batch) { b.Epoch = 1000001 },
		"Producer -2":                  func(b *impl.Batch) { b.Producer = -2 },
		"Producer -2, no Turn":         func(b *impl.Batch) { alone(b); b.Producer = -2 },
		"Producer beyond":              func(b *impl.Batch) { b.Producer = impl.MaxOffset + 1 },
		"Turn below 0":                 func(b *impl.Batch) { b.Turn = -1 },
		"Turn beyond":                  func(b *impl.Batch) { b.Turn = 1001 },
		"Seq below 0":                  func(b *impl.Batch) { b.Seq = -1 },
		"last number beyond":           func(b *impl.Batch) { b.Seq = impl.MaxOffset },
		"Seq beyond":                   func(b *impl.Batch) { b.Seq, b.Records = impl.MaxOffset+1, records(1) },
		"40 numbers beyond":            func(b *impl.Batch) { b.Seq, b.Records = impl.MaxOffset-38, records(40) },
		"greatest Seq":                 func(b *impl.Batch) { b.Seq = math.MaxInt },
		"Turn, no Producer":            func(b *impl.Batch) { alone(b); b.Turn = 1 },
		"Turn below 0, no Producer":    func(b *impl.Batch) { alone(b); b.Turn = -1 },
		"Seq, no Producer":             func(b *impl.Batch) { alone(b); b.Seq = 1 },
		"Flags below 0":                func(b *impl.Batch) { b.Flags = -1 },
		"Flags with FlagOpen, below 0": func(b *impl.Batch) { b.Flags = -6 },
		"Flags 8":                      func(b *impl.Batch) { b.Flags = 8 },
		"Flags 10":                     func(b *impl.Batch) { b.Flags = 10 },
		"greatest Flags":               func(b *impl.Batch) { b.Flags = math.MaxInt },
		"open, no Producer":            func(b *impl.Batch) { alone(b); b.Flags = 2 },
		"open, squeezed, no Producer":  func(b *impl.Batch) { alone(b); b.Flags = 3 },
		"mark, not open":               func(b *impl.Batch) { *b = marker("commit"); b.Flags = 4 },
		"mark, squeezed, not open":     func(b *impl.Batch) { *b = marker("commit"); b.Flags = 5 },
		"mark, no Producer":            func(b *impl.Batch) { *b = marker("commit"); alone(b) },
		"a marker of two":              func(b *impl.Batch) { *b = marker("commit"); b.Records = append(b.Records, b.Records[0]) },
		"a marker of none":             func(b *impl.Batch) { *b = marker("commit"); b.Records = nil },
		"a marker with another Key":    func(b *impl.Batch) { *b = marker("commit2") },
		"a marker with half a Key":     func(b *impl.Batch) { *b = marker("abor") },
		"a marker in capitals":         func(b *impl.Batch) { *b = marker("Commit") },
		"a marker with an empty Key":   func(b *impl.Batch) { *b = marker("") },
		"a marker without a Key":       func(b *impl.Batch) { *b = marker(""); b.Records[0].Keyed = false },
		"a marker with a Key unkeyed":  func(b *impl.Batch) { *b = marker("commit"); b.Records[0].Keyed = false },
		"a marker with a Value":        func(b *impl.Batch) { *b = marker("abort"); b.Records[0].Value = "v" },
		"a marker with no Value":       func(b *impl.Batch) { *b = marker("abort"); b.Records[0].Gone = true },
		"a marker with Heads":          func(b *impl.Batch) { *b = marker("abort"); b.Records[0].Heads = heads(1) },
		"nil Records":                  func(b *impl.Batch) { b.Records = nil },
		"no Records":                   func(b *impl.Batch) { b.Records = []impl.Record{} },
		"no Records at the end":        func(b *impl.Batch) { b.Base, b.Seq, b.Records = impl.MaxOffset+1, impl.MaxOffset+1, nil },
		"41 Records":                   func(b *impl.Batch) { b.Records = records(41) },
		"the first Record bad":         func(b *impl.Batch) { b.Records[0].Time = -1 },
		"the last Record bad":          func(b *impl.Batch) { b.Records[1].Gone = true },
	}
}

func TestBatchOkRefuses(t *testing.T) {
	for name, do := range badBatches() {
		b := ordinary()
		do(&b)
		if impl.BatchOk(b) || batchOkAsTold(b) {
			t.Errorf("taken: %s", name)
		}
		if impl.LastOffset(b) != -1 {
			t.Errorf("%s: the last offset is %d", name, impl.LastOffset(b))
		}
	}
	if impl.BatchOk(impl.Batch{}) || impl.LastOffset(impl.Batch{}) != -1 {
		t.Error("the zero value is taken")
	}
}

// Each sum of the flags and some that are none, with and without a producer, of a record that may be a marker and of two.
func TestBatchOkOfEachSumOfFlags(t *testing.T) {
	for flags := -9; flags <= 17; flags++ {
		for _, producer := range []int{-1, 0, 9} {
			for _, count := range []int{1, 2} {
				b := marker("commit")
				b.Producer, b.Turn, b.Flags = producer, 0, flags
				for len(b.Records) < count {
					b.Records = append(b.Records, b.Records[0])
				}
				want := flags == 0 || flags == 1
				want = want || (flags == 2 || flags == 3) && producer >= 0
				want = want || (flags == 6 || flags == 7) && producer >= 0 && count == 1
				if impl.BatchOk(b) != want {
					t.Errorf("Flags %d, producer %d, %d records: %v", flags, producer, count, !want)
				}
			}
		}
	}
}

func recordOkAsTold(r impl.Record) bool {
	timed := r.Time >= 0 && r.Time <= 1000000000000
	keyed := r.Keyed && len(r.Key) <= 100 || !r.Keyed && r.Key == ""
	valued := !r.Gone && len(r.Value) <= 100 || r.Gone && r.Value == ""
	headed := len(r.Heads) <= 3
	for _, h := range r.Heads {
		headed = headed && len(h.Key) >= 1 && len(h.Key) <= 100 && len(h.Value) <= 100
	}
	return timed && keyed && valued && headed
}

// batchOkAsTold goes through a batch's record by record, as the document numbers them.
func batchOkAsTold(b impl.Batch) bool {
	ok := len(b.Records) >= 1 && len(b.Records) <= 40 && b.Epoch >= 0 && b.Epoch <= 1000000
	for i, r := range b.Records {
		ok = ok && b.Base >= 0 && b.Base <= 1000000000 && b.Base+i <= 1000000000 && recordOkAsTold(r)
		ok = ok && b.Seq >= 0 && b.Seq <= 1000000000 && b.Seq+i <= 1000000000
	}
	if b.Producer == -1 {
		ok = ok && b.Turn == 0 && b.Seq == 0
	} else {
		ok = ok && b.Producer >= 0 && b.Producer <= 1000000000 && b.Turn >= 0 && b.Turn <= 1000
	}
	switch b.Flags {
	case 0, 1:
		return ok
	case 2, 3:
		return ok && b.Producer != -1
	case 6, 7:
		ok = ok && b.Producer != -1 && len(b.Records) == 1
		return ok && slices.Contains([]string{"commit", "abort"}, b.Records[0].Key) && !b.Records[0].Gone && b.Records[0].Value == "" && len(b.Records[0].Heads) == 0
	}
	return false
}

func pick[T any](r *rand.Rand, list ...T) T {
	return list[r.Intn(len(list))]
}

func randomText(r *rand.Rand) string {
	length := pick(r, 0, 1, 2, 3, 10, 63, 64, 99, 100, r.Intn(101))
	return string(randomBytes(r, length, pick(r, 1, 2, 5, 256)))
}

func randomRecord(r *rand.Rand) impl.Record {
	x := impl.Record{Time: pick(r, 0, 1, 63, 64, impl.MaxTime, impl.MaxTime-1, r.Intn(1000), r.Intn(impl.MaxTime+1))}
	if r.Intn(3) > 0 {
		x.Keyed, x.Key = true, randomText(r)
	}
	if x.Gone = r.Intn(4) == 0; !x.Gone {
		x.Value = randomText(r)
	}
	for range pick(r, 0, 0, 0, 1, 2, 3) {
		x.Heads = append(x.Heads, impl.Head{Key: "h" + string(randomBytes(r, r.Intn(100), 256)), Value: randomText(r)})
	}
	return x
}

// randomBatch is always BatchOk.
func randomBatch(r *rand.Rand) impl.Batch {
	b := impl.Batch{Producer: -1, Flags: r.Intn(2), Epoch: pick(r, 0, 1, impl.MaxEpoch, r.Intn(impl.MaxEpoch+1))}
	for range pick(r, 1, 1, 2, 3, 5, 39, 40, 1+r.Intn(40)) {
		b.Records = append(b.Records, randomRecord(r))
	}
	if r.Intn(3) > 0 {
		b.Producer, b.Turn = pick(r, 0, 1, 9, impl.MaxOffset), pick(r, 0, 1, impl.MaxTurn)
		b.Flags += pick(r, 0, impl.FlagOpen)
		if r.Intn(6) == 0 {
			b.Flags = impl.FlagOpen + impl.FlagMark + r.Intn(2)
			b.Records = []impl.Record{{Time: b.Records[0].Time, Keyed: true, Key: pick(r, "commit", "abort")}}
		}
		b.Seq = pick(r, 0, 1, 64, r.Intn(1000), impl.MaxOffset+1-len(b.Records))
	}
	b.Base = pick(r, 0, 1, 63, 64, r.Intn(100000), impl.MaxOffset+1-len(b.Records))
	return b
}

// spoil changes one thing of a batch, mostly past a bound.
func spoil(r *rand.Rand, b *impl.Batch) {
	x := &b.Records[r.Intn(len(b.Records))]
	switch r.Intn(14) {
	case 0:
		b.Base = pick(r, -1, impl.MaxOffset, impl.MaxOffset+1, b.Base+1, math.MaxInt)
	case 1:
		b.Epoch = pick(r, -1, impl.MaxEpoch, impl.MaxEpoch+1)
	case 2:
		b.Producer = pick(r, -2, -1, 0, impl.MaxOffset, impl.MaxOffset+1)
	case 3:
		b.Turn = pick(r, -1, 0, impl.MaxTurn, impl.MaxTurn+1)
	case 4:
		b.Seq = pick(r, -1, 0, impl.MaxOffset, impl.MaxOffset+1, b.Seq+1, math.MaxInt)
	case 5:
		b.Flags = r.Intn(10) - 1
	case 6:
		b.Records = append(b.Records, randomRecord(r))
	case 7:
		b.Records = b.Records[:r.Intn(len(b.Records)+1)]
	case 8:
		x.Time = pick(r, -1, 0, impl.MaxTime, impl.MaxTime+1, math.MaxInt, math.MinInt)
	case 9:
		x.Keyed = !x.Keyed
	case 10:
		x.Gone = !x.Gone
	case 11:
		x.Key = pick(r, "", "commit", "abort", long(100), long(101))
	case 12:
		x.Value = pick(r, "", "v", long(100), long(101))
	case 13:
		x.Heads = append(slices.Clone(x.Heads), impl.Head{Key: pick(r, "", "h", long(100), long(101)), Value: pick(r, "", long(100), long(101))})
	}
}

func TestBatchOkIsAsTold(t *testing.T) {
	r := rand.New(rand.NewSource(20))
	taken := 0
	for range 20000 {
		b := randomBatch(r)
		if !impl.BatchOk(b) || impl.LastOffset(b) != b.Base+len(b.Records)-1 {
			t.Fatalf("refused: %+v", b)
		}
		for range 1 + r.Intn(2) {
			if len(b.Records) > 0 {
				spoil(r, &b)
			}
		}
		want := batchOkAsTold(b)
		if impl.BatchOk(b) != want {
			t.Fatalf("BatchOk is %v: %+v", !want, b)
		}
		for _, x := range b.Records {
			if impl.RecordOk(x) != recordOkAsTold(x) {
				t.Fatalf("RecordOk is %v: %+v", !recordOkAsTold(x), x)
			}
		}
		last := -1
		if want {
			taken++
			last = b.Base + len(b.Records) - 1
		}
		if impl.LastOffset(b) != last {
			t.Fatalf("LastOffset is %d, not %d: %+v", impl.LastOffset(b), last, b)
		}
	}
	if taken < 2000 || taken > 18000 {
		t.Error("the batches to try are too much alike:", taken)
	}
}

// roomy is a copy of a batch whose lists have spare room behind them, filled with what must stay.
func roomy(b impl.Batch) impl.Batch {
	spare := impl.Record{Time: -7, Key: "spare"}
	list := append(slices.Clone(b.Records), spare, spare, spare)
	for i := range list {
		full := append(slices.Clone(list[i].Heads), impl.Head{Key: "spare"}, impl.Head{Key: "spare"})
		list[i].Heads = full[:len(full)-2]
	}
	b.Records = list[:len(b.Records)]
	return b
}

// whole tells a batch with all that stands in the room behind its lists.
func whole(b impl.Batch) impl.Batch {
	b.Records = slices.Clone(b.Records[:cap(b.Records)])
	for i, x := range b.Records {
		b.Records[i].Heads = slices.Clone(x.Heads[:cap(x.Heads)])
	}
	return b
}

func TestBatchesLeaveArgumentsAlone(t *testing.T) {
	r := rand.New(rand.NewSource(21))
	for range 300 {
		b := roomy(randomBatch(r))
		if r.Intn(3) == 0 {
			spoil(r, &b)
		}
		as := whole(b)
		impl.BatchOk(b)
		impl.LastOffset(b)
		for version := range 4 {
			impl.WriteBatch(b, version)
		}
		for _, x := range b.Records {
			impl.RecordOk(x)
		}
		if !reflect.DeepEqual(whole(b), as) {
			t.Fatalf("a batch was changed: %+v", as)
		}
	}
}
