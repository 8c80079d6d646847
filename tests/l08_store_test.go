package tests

import (
	"math"
	"math/rand"
	"reflect"
	"slices"
	"strconv"
	"strings"
	"testing"

	"loop.example/g00035/impl"
)

// plainStore is a copy of a store in which all empty lists are alike.
func plainStore(s impl.Store) impl.Store {
	out := impl.Store{Logs: []impl.Log{}, Txns: []impl.Txn{}, Used: s.Used}
	for _, l := range s.Logs {
		out.Logs = append(out.Logs, plainLog(l))
	}
	for _, x := range s.Txns {
		x.Parts = append([]int{}, x.Parts...)
		out.Txns = append(out.Txns, x)
	}
	return out
}

func sameStore(a impl.Store, b impl.Store) bool {
	return reflect.DeepEqual(plainStore(a), plainStore(b))
}

// bank has a name with a transaction in two of its four logs, one with a transaction that wrote nothing, and one that rests.
func bank() impl.Store {
	return impl.Store{
		Logs: []impl.Log{valued(journal(bare(0, 5, 90), part(2, 2))), gappy(), impl.NewLog(0, 60), journal(part(2, 1), sentBy(5, 0, 0, 2))},
		Txns: []impl.Txn{{Name: "alpha", Producer: 2, Turn: 4, Open: true, Parts: []int{0, 3}}, {Name: "B_2", Producer: 0, Turn: 7, Open: true}, {Name: "c", Producer: 5}},
		Used: 7,
	}
}

// idle are so many names with the producers 0 and on, none of which has a transaction under way.
func idle(count int) []impl.Txn {
	list := []impl.Txn{}
	for i := range count {
		list = append(list, impl.Txn{Name: "n" + strconv.Itoa(i), Producer: i, Turn: i})
	}
	return list
}

func emptyLogs(count int) []impl.Log {
	list := []impl.Log{}
	for range count {
		list = append(list, impl.NewLog(0, 100))
	}
	return list
}

func storeOkAsTold(s impl.Store) bool {
	ok := inBounds(len(s.Logs), 1, 12) && len(s.Txns) <= 20 && inBounds(s.Used, 0, 1000000000)
	for _, l := range s.Logs {
		ok = ok && logOkAsTold(l)
	}
	for i, x := range s.Txns {
		ok = ok && impl.NameOk(x.Name) && x.Producer >= 0 && x.Producer < s.Used && inBounds(x.Turn, 0, 1000)
		ok = ok && (x.Open || len(x.Parts) == 0)
		for j, n := range x.Parts {
			ok = ok && inBounds(n, 0, len(s.Logs)-1) && (j == 0 || x.Parts[j-1] < n)
		}
		for _, y := range s.Txns[i+1:] {
			ok = ok && x.Name != y.Name && x.Producer != y.Producer
		}
	}
	return ok
}

type storeChange = func(s *impl.Store)

func TestStoreOkTakes(t *testing.T) {
	good := map[string]storeChange{
		"as it is":                           func(s *impl.Store) {},
		"the least":                          func(s *impl.Store) { *s = impl.Store{Logs: emptyLogs(1)} },
		"one log":                            func(s *impl.Store) { s.Logs, s.Txns[0].Parts = s.Logs[:1], []int{0} },
		"most logs":                          func(s *impl.Store) { s.Logs = append(s.Logs, emptyLogs(8)...) },
		"logs of other Rolls and Starts":     func(s *impl.Store) { s.Logs[2] = impl.NewLog(impl.MaxOffset, impl.MaxRoll) },
		"a full log":                         func(s *impl.Store) { s.Logs[2] = ladder(1, 400) },
		"no Txns":                            func(s *impl.Store) { s.Txns = nil },
		"an empty list of Txns":              func(s *impl.Store) { s.Txns, s.Used = []impl.Txn{}, 0 },
		"Txns at most":                       func(s *impl.Store) { s.Txns, s.Used = idle(20), 20 },
		"Used just above the Producers":      func(s *impl.Store) { s.Used = 6 },
		"Used at most":                       func(s *impl.Store) { s.Used = impl.MaxOffset },
		"Used 0, no Txns":                    func(s *impl.Store) { s.Used, s.Txns = 0, nil },
		"Producer at least":                  func(s *impl.Store) { s.Txns[0].Producer, s.Txns[1].Producer = 0, 1 },
		"Producer at most":                   func(s *impl.Store) { s.Txns[1].Producer, s.Used = impl.MaxOffset-1, impl.MaxOffset },
		"Producers that rise":                func(s *impl.Store) { s.Txns[0].Producer, s.Txns[1].Producer, s.Txns[2].Producer = 2, 3, 6 },
		"Producers that fall":                func(s *impl.Store) { s.Txns[0].Producer, s.Txns[1].Producer, s.Txns[2].Producer = 6, 5, 4 },
		"Turn at least":                      func(s *impl.Store) { s.Txns[0].Turn = 0 },
		"Turn at most":                       func(s *impl.Store) { s.Txns[0].Turn = 1000 },
		"a Name of one byte":                 func(s *impl.Store) { s.Txns[0].Name = "Z" },
		"a Name of most bytes":               func(s *impl.Store) { s.Txns[0].Name = strings.Repeat("x", 20) },
		"Names that differ in their case":    func(s *impl.Store) { s.Txns[0].Name = "C" },
		"a Name that is another's beginning": func(s *impl.Store) { s.Txns[0].Name = "cc" },
		"Open without Parts":                 func(s *impl.Store) { s.Txns[2].Open = true },
		"Open with an empty list":            func(s *impl.Store) { s.Txns[2].Open, s.Txns[2].Parts = true, []int{} },
		"an empty list without Open":         func(s *impl.Store) { s.Txns[2].Parts = []int{} },
		"all logs as Parts":                  func(s *impl.Store) { s.Txns[1].Parts = []int{0, 1, 2, 3} },
		"the last log as Part":               func(s *impl.Store) { s.Txns[1].Parts = []int{3} },
		"the first log as Part":              func(s *impl.Store) { s.Txns[1].Parts = []int{0} },
		"a Part without such a batch":        func(s *impl.Store) { s.Txns[1].Parts = []int{2} },
		"not Open, though the log says so":   func(s *impl.Store) { s.Txns[0].Open, s.Txns[0].Parts = false, nil },
		"the same Parts in two Txns":         func(s *impl.Store) { s.Txns[1].Parts = []int{0, 3} },
		"the same Turn in all Txns":          func(s *impl.Store) { s.Txns[1].Turn, s.Txns[2].Turn = 4, 4 },
	}
	for name, do := range good {
		s := bank()
		do(&s)
		if !storeOkAsTold(s) || !impl.StoreOk(s) {
			t.Errorf("refused: %s", name)
		}
	}
}

// badStores are not right, each for one reason.
func badStores() map[string]storeChange {
	list := map[string]storeChange{
		"the zero value":               func(s *impl.Store) { *s = impl.Store{} },
		"no logs":                      func(s *impl.Store) { s.Logs, s.Txns[0].Parts = nil, nil },
		"no logs and nothing else":     func(s *impl.Store) { *s = impl.Store{Logs: []impl.Log{}} },
		"too many logs":                func(s *impl.Store) { s.Logs = append(s.Logs, emptyLogs(9)...) },
		"too many Txns":                func(s *impl.Store) { s.Txns, s.Used = idle(21), 21 },
		"Used below 0":                 func(s *impl.Store) { s.Used, s.Txns = -1, nil },
		"Used below 0, with Txns":      func(s *impl.Store) { s.Used = -1 },
		"least Used":                   func(s *impl.Store) { s.Used = math.MinInt },
		"Used beyond":                  func(s *impl.Store) { s.Used = impl.MaxOffset + 1 },
		"Used beyond, no Txns":         func(s *impl.Store) { s.Used, s.Txns = impl.MaxOffset+1, nil },
		"greatest Used":                func(s *impl.Store) { s.Used = math.MaxInt },
		"Producer below 0":             func(s *impl.Store) { s.Txns[2].Producer = -1 },
		"least Producer":               func(s *impl.Store) { s.Txns[2].Producer = math.MinInt },
		"Producer at Used":             func(s *impl.Store) { s.Txns[2].Producer = 7 },
		"Producer at Used, the first":  func(s *impl.Store) { s.Txns[0].Producer = 7 },
		"Producer above Used":          func(s *impl.Store) { s.Txns[2].Producer = 8 },
		"Used at a Producer":           func(s *impl.Store) { s.Used = 5 },
		"a Producer, Used 0":           func(s *impl.Store) { s.Used, s.Txns = 0, idle(1) },
		"a Producer twice":             func(s *impl.Store) { s.Txns[2].Producer = 0 },
		"the first one's":              func(s *impl.Store) { s.Txns[2].Producer = 2 },
		"Turn below 0":                 func(s *impl.Store) { s.Txns[0].Turn = -1 },
		"the last one's":               func(s *impl.Store) { s.Txns[2].Turn = -1 },
		"Turn beyond":                  func(s *impl.Store) { s.Txns[0].Turn = 1001 },
		"greatest Turn":                func(s *impl.Store) { s.Txns[2].Turn = math.MaxInt },
		"an empty Name":                func(s *impl.Store) { s.Txns[0].Name = "" },
		"a Name that is too long":      func(s *impl.Store) { s.Txns[0].Name = strings.Repeat("x", 21) },
		"a Name with a digit ahead":    func(s *impl.Store) { s.Txns[2].Name = "1a" },
		"a Name with `_` ahead":        func(s *impl.Store) { s.Txns[1].Name = "_a" },
		"a Name with a blank":          func(s *impl.Store) { s.Txns[2].Name = "a b" },
		"a Name twice":                 func(s *impl.Store) { s.Txns[2].Name = "B_2" },
		"the first one twice":          func(s *impl.Store) { s.Txns[2].Name = "alpha" },
		"Parts without Open":           func(s *impl.Store) { s.Txns[0].Open = false },
		"one Part without Open":        func(s *impl.Store) { s.Txns[2].Parts = []int{0} },
		"Parts that fall":              func(s *impl.Store) { s.Txns[0].Parts = []int{3, 0} },
		"Parts that fall at the end":   func(s *impl.Store) { s.Txns[0].Parts = []int{0, 3, 2} },
		"a Part twice":                 func(s *impl.Store) { s.Txns[0].Parts = []int{0, 0} },
		"the last Part twice":          func(s *impl.Store) { s.Txns[0].Parts = []int{0, 3, 3} },
		"a Part below 0":               func(s *impl.Store) { s.Txns[0].Parts = []int{-1, 3} },
		"a Part beyond":                func(s *impl.Store) { s.Txns[0].Parts = []int{0, 4} },
		"one Part beyond":              func(s *impl.Store) { s.Txns[1].Parts = []int{4} },
		"greatest Part":                func(s *impl.Store) { s.Txns[1].Parts = []int{math.MaxInt} },
		"a Part of a log that is gone": func(s *impl.Store) { s.Logs = s.Logs[:3] },
	}
	for name, do := range badLogs() {
		list["a log: "+name] = func(s *impl.Store) { do(&s.Logs[1]) }
	}
	list["the first log"] = func(s *impl.Store) { s.Logs[0].Roll = 0 }
	list["the last log"] = func(s *impl.Store) { s.Logs[3].Next = 2 }
	list["one log that is not right"] = func(s *impl.Store) { *s = impl.Store{Logs: []impl.Log{{}}} }
	return list
}

// What is not right is refused by every function that takes a store, with the fixed answer of each.
func TestWhatIsNotAStoreIsRefused(t *testing.T) {
	for name, do := range badStores() {
		s := bank()
		do(&s)
		if storeOkAsTold(s) || impl.StoreOk(s) {
			t.Errorf("taken: %s", name)
		}
		mustRefuseStore(t, name, s)
	}
}

func mustRefuseStore(t *testing.T, name string, s impl.Store) {
	t.Helper()
	ops := []impl.TxnOp{
		{Kind: 1, Name: "new"}, {Kind: 1, Name: "c"}, {Kind: 1, Name: "alpha"}, {Kind: 2, Name: "alpha", Producer: 2, Turn: 4, Records: records(1)},
		{Kind: 3, Name: "alpha", Producer: 2, Turn: 4}, {Kind: 4, Name: "alpha", Producer: 2, Turn: 4}, {Kind: 3, Name: "none"}, {Kind: 2, Name: "c", Producer: 5, Turn: 9}, {},
	}
	for _, op := range ops {
		if x, told := impl.DoTxn(s, op); told != (impl.TxnTold{Code: impl.TxnBad, Producer: -1, Turn: -1, Offset: -1}) || !sameStore(x, impl.Store{}) {
			t.Errorf("DoTxn, %s: %+v %+v", name, told, x)
		}
	}
	for many := range len(ops) + 1 {
		if x, list := impl.RunTxns(s, ops[:many]); len(list) != 0 || !sameStore(x, impl.Store{}) {
			t.Errorf("RunTxns, %s: %+v %+v", name, list, x)
		}
	}
}

func TestNewStore(t *testing.T) {
	for _, parts := range []int{1, 2, 7, 11, 12} {
		for _, roll := range []int{1, 2, 500, impl.MaxRoll - 1, impl.MaxRoll} {
			s := impl.NewStore(parts, roll)
			want := impl.Store{}
			for range parts {
				want.Logs = append(want.Logs, impl.Log{Roll: roll})
			}
			if !sameStore(s, want) || !impl.StoreOk(s) {
				t.Errorf("NewStore(%d, %d) is %+v", parts, roll, s)
			}
			mustBeNew(t, "NewStore", s)
		}
		for _, roll := range []int{0, -1, impl.MaxRoll + 1, math.MaxInt, math.MinInt} {
			if s := impl.NewStore(parts, roll); !sameStore(s, impl.Store{}) {
				t.Errorf("NewStore(%d, %d) is %+v", parts, roll, s)
			}
		}
	}
	for _, parts := range []int{0, -1, 13, 14, math.MaxInt, math.MinInt} {
		for _, roll := range []int{0, 1, 500, impl.MaxRoll} {
			if s := impl.NewStore(parts, roll); !sameStore(s, impl.Store{}) {
				t.Errorf("NewStore(%d, %d) is %+v", parts, roll, s)
			}
		}
	}
}

// randomStore is always right: its logs have batches of the Txns' producers and of others, and some have no room left.
func randomStore(r *rand.Rand) impl.Store {
	s := impl.Store{Used: pick(r, 8, 8, 9, 20, impl.MaxOffset)}
	for range pick(r, 1, 2, 3, 3, 5, 12) {
		s.Logs = append(s.Logs, randomPartition(r))
	}
	producers := r.Perm(8)
	for i := range pick(r, 0, 1, 2, 3, 5, 8) {
		x := impl.Txn{Name: "n" + strconv.Itoa(i), Producer: producers[i], Turn: pick(r, 0, 1, 2, 2, impl.MaxTurn), Open: r.Intn(2) == 0}
		for part := range s.Logs {
			if x.Open && r.Intn(3) == 0 {
				x.Parts = append(x.Parts, part)
			}
		}
		s.Txns = append(s.Txns, x)
	}
	if s.Used >= 20 && r.Intn(2) == 0 {
		s.Txns = idle(pick(r, 19, 20))
	}
	return s
}

func randomPartition(r *rand.Rand) impl.Log {
	switch r.Intn(12) {
	case 0:
		return impl.NewLog(pick(r, 0, 7, impl.MaxOffset, impl.MaxOffset-1, impl.MaxOffset-2), 60)
	case 1:
		return ladder(1, pick(r, 399, 400))
	case 2:
		return impl.NewLog(r.Intn(9), 100)
	}
	return dealLog(r)
}

// spoilStore changes one thing of a store, mostly so that it is right no more.
func spoilStore(r *rand.Rand, s *impl.Store) {
	if len(s.Txns) == 0 {
		s.Txns = idle(2)
	}
	x := &s.Txns[r.Intn(len(s.Txns))]
	other := s.Txns[r.Intn(len(s.Txns))]
	switch r.Intn(9) {
	case 0:
		s.Logs = slices.Repeat(s.Logs[:1], pick(r, 0, 1, 12, 13))
	case 1:
		spoilLog(r, &s.Logs[r.Intn(len(s.Logs))])
	case 2:
		s.Txns, s.Used = idle(pick(r, 0, 19, 20, 21)), 21
	case 3:
		s.Used = pick(r, -1, 0, x.Producer, x.Producer+1, impl.MaxOffset, impl.MaxOffset+1)
	case 4:
		x.Name = pick(r, "", "x", "1x", other.Name)
	case 5:
		x.Producer = pick(r, -1, 0, s.Used-1, s.Used, other.Producer)
	case 6:
		x.Turn = pick(r, -1, 0, 1000, 1001)
	case 7:
		x.Open = !x.Open
	case 8:
		x.Parts = append(slices.Clone(x.Parts), r.Intn(len(s.Logs)+1))
	}
}

func TestStoreOkIsAsTold(t *testing.T) {
	r := rand.New(rand.NewSource(96))
	taken, refused := 0, 0
	for range 4000 {
		s := randomStore(r)
		if !storeOkAsTold(s) || !impl.StoreOk(s) {
			t.Fatalf("refused: %+v", s)
		}
		spoilStore(r, &s)
		want := storeOkAsTold(s)
		if impl.StoreOk(s) != want {
			t.Fatalf("StoreOk is %v: %+v", !want, s)
		}
		if want {
			taken++
			continue
		}
		if refused++; refused%20 == 0 {
			mustRefuseStore(t, "at random", s)
		}
	}
	if taken < 400 || refused < 400 {
		t.Error("the stores to try are too much alike:", taken, refused)
	}
}
