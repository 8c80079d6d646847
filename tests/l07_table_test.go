package tests

import (
	"math"
	"math/rand"
	"reflect"
	"slices"
	"testing"

	"loop.example/g00035/impl"
)

func TestLimitsOfProducers(t *testing.T) {
	limits := []int{impl.MaxSeen, impl.MaxRecent, impl.MaxSends, impl.MaxTries}
	if !slices.Equal(limits, []int{100, 5, 60, 200}) {
		t.Error("a limit is another than the document's:", limits)
	}
	codes := []int{impl.TakeOk, impl.TakeTwice, impl.TakeGap, impl.TakeFenced, impl.TakeBad, impl.TakeLost}
	if !slices.Equal(codes, []int{0, 1, 2, 3, 4, 5}) {
		t.Error("a code is another than the document's:", codes)
	}
	fates := []int{impl.FateOk, impl.FateLost, impl.FateDeaf, impl.FateMoved}
	if !slices.Equal(fates, []int{0, 1, 2, 3}) {
		t.Error("a fate is another than the document's:", fates)
	}
}

// plainTable is a copy of a table in which all empty lists are alike.
func plainTable(list []impl.Seen) []impl.Seen {
	out := []impl.Seen{}
	for _, s := range list {
		s.Recent = append([]impl.Recent{}, s.Recent...)
		out = append(out, s)
	}
	return out
}

func sameTable(a []impl.Seen, b []impl.Seen) bool {
	return reflect.DeepEqual(plainTable(a), plainTable(b))
}

// seenOf is a Seen with batches of these sizes, one behind the other up to Next, at offsets that tell them apart.
func seenOf(producer int, turn int, next int, sizes ...int) impl.Seen {
	s := impl.Seen{Producer: producer, Turn: turn, Next: next}
	seq := next
	for _, many := range sizes {
		seq -= many
	}
	for i, many := range sizes {
		s.Recent = append(s.Recent, impl.Recent{Seq: seq, Many: many, Offset: 100*producer + 10*i})
		seq += many
	}
	return s
}

// guests is a table of four producers, the second one with MaxRecent batches, the third with none, the last with one.
func guests() []impl.Seen {
	return []impl.Seen{
		seenOf(2, 0, 9, 2, 3),
		seenOf(5, 4, 20, 1, 2, 3, 1, 4),
		seenOf(6, 1, 0),
		seenOf(9, 1000, 40, 40),
	}
}

// crowd is a table of so many producers, at the numbers 0, 2, 4 and on.
func crowd(count int) []impl.Seen {
	list := []impl.Seen{}
	for i := range count {
		list = append(list, seenOf(2*i, i, 3, 2))
	}
	return list
}

func inBounds(n int, least int, most int) bool {
	return least <= n && n <= most
}

func tableOkAsTold(list []impl.Seen) bool {
	ok := len(list) <= 100
	for i, s := range list {
		ok = ok && inBounds(s.Producer, 0, 1000000000) && inBounds(s.Turn, 0, 1000) && inBounds(s.Next, 0, 1000000001)
		ok = ok && len(s.Recent) <= 5 && (i == 0 || list[i-1].Producer < s.Producer)
		for j, x := range s.Recent {
			ok = ok && inBounds(x.Seq, 0, 1000000000) && inBounds(x.Many, 1, 40) && inBounds(x.Offset, 0, 1000000000)
			ok = ok && (j == 0 || x.Seq == s.Recent[j-1].Seq+s.Recent[j-1].Many)
			ok = ok && (j < len(s.Recent)-1 || s.Next == x.Seq+x.Many)
		}
	}
	return ok
}

type tableChange = func(list []impl.Seen) []impl.Seen

// with changes one Seen of a table.
func with(at int, do func(s *impl.Seen)) tableChange {
	return func(list []impl.Seen) []impl.Seen {
		do(&list[at])
		return list
	}
}

func TestTableOkTakes(t *testing.T) {
	good := map[string]tableChange{
		"as it is":                  func(list []impl.Seen) []impl.Seen { return list },
		"nil":                       func(list []impl.Seen) []impl.Seen { return nil },
		"an empty list":             func(list []impl.Seen) []impl.Seen { return []impl.Seen{} },
		"the zero value alone":      func(list []impl.Seen) []impl.Seen { return []impl.Seen{{}} },
		"most Seens":                func(list []impl.Seen) []impl.Seen { return crowd(100) },
		"least Producer":            with(0, func(s *impl.Seen) { s.Producer = 0 }),
		"Producer at most":          with(3, func(s *impl.Seen) { s.Producer = impl.MaxOffset }),
		"Producers side by side":    with(0, func(s *impl.Seen) { s.Producer = 4 }),
		"least Turn":                with(1, func(s *impl.Seen) { s.Turn = 0 }),
		"Turn at most":              with(1, func(s *impl.Seen) { s.Turn = impl.MaxTurn }),
		"Turns that fall":           with(0, func(s *impl.Seen) { s.Turn = 7 }),
		"least Next":                with(2, func(s *impl.Seen) { s.Next = 0 }),
		"Next without Recent":       with(2, func(s *impl.Seen) { s.Next = 17 }),
		"Next at most":              with(2, func(s *impl.Seen) { s.Next = impl.MaxOffset + 1 }),
		"Next at most, with Recent": with(1, func(s *impl.Seen) { *s = seenOf(5, 4, impl.MaxOffset+1, 1, 2, 40, 1, 1) }),
		"no Recent":                 with(1, func(s *impl.Seen) { s.Recent = []impl.Recent{} }),
		"one Recent":                with(1, func(s *impl.Seen) { s.Recent = s.Recent[4:] }),
		"most Recent":               with(0, func(s *impl.Seen) { *s = seenOf(2, 0, 200, 40, 40, 40, 40, 40) }),
		"least Seq":                 with(3, func(s *impl.Seen) { s.Recent[0].Seq, s.Recent[0].Many, s.Next = 0, 40, 40 }),
		"Seq at most":               with(3, func(s *impl.Seen) { *s = seenOf(9, 0, impl.MaxOffset+1, 1) }),
		"least Many":                with(3, func(s *impl.Seen) { *s = seenOf(9, 0, 1, 1) }),
		"least Offset":              with(1, func(s *impl.Seen) { s.Recent[2].Offset = 0 }),
		"Offset at most":            with(1, func(s *impl.Seen) { s.Recent[2].Offset = impl.MaxOffset }),
		"Offsets that fall":         with(1, func(s *impl.Seen) { s.Recent[0].Offset = 99999 }),
		"Offsets alike":             with(1, func(s *impl.Seen) { s.Recent[0].Offset, s.Recent[1].Offset = 3, 3 }),
	}
	for name, do := range good {
		if list := do(guests()); !tableOkAsTold(list) || !impl.TableOk(list) {
			t.Errorf("refused: %s", name)
		}
	}
}

// badTables are none, each for one reason.
func badTables() map[string]tableChange {
	return map[string]tableChange{
		"too many Seens":             func(list []impl.Seen) []impl.Seen { return crowd(101) },
		"Producer below 0":           with(0, func(s *impl.Seen) { s.Producer = -1 }),
		"least number as Producer":   with(0, func(s *impl.Seen) { s.Producer = math.MinInt }),
		"Producer beyond":            with(3, func(s *impl.Seen) { s.Producer = impl.MaxOffset + 1 }),
		"greatest Producer":          with(3, func(s *impl.Seen) { s.Producer = math.MaxInt }),
		"a Producer twice":           with(1, func(s *impl.Seen) { s.Producer = 2 }),
		"the last Producer twice":    with(3, func(s *impl.Seen) { s.Producer = 6 }),
		"Producers that fall":        with(1, func(s *impl.Seen) { s.Producer = 1 }),
		"the last one falls":         with(3, func(s *impl.Seen) { s.Producer = 5 }),
		"Turn below 0":               with(0, func(s *impl.Seen) { s.Turn = -1 }),
		"Turn beyond":                with(3, func(s *impl.Seen) { s.Turn = 1001 }),
		"greatest Turn":              with(2, func(s *impl.Seen) { s.Turn = math.MaxInt }),
		"Next below 0":               with(2, func(s *impl.Seen) { s.Next = -1 }),
		"Next beyond":                with(2, func(s *impl.Seen) { s.Next = impl.MaxOffset + 2 }),
		"greatest Next":              with(2, func(s *impl.Seen) { s.Next = math.MaxInt }),
		"Next beyond, with Recent":   with(1, func(s *impl.Seen) { *s = seenOf(5, 4, impl.MaxOffset+2, 4, 4) }),
		"Next less than it should":   with(0, func(s *impl.Seen) { s.Next = 8 }),
		"Next more than it should":   with(0, func(s *impl.Seen) { s.Next = 10 }),
		"Next 0 with Recent":         with(1, func(s *impl.Seen) { s.Next = 0 }),
		"too many Recent":            with(0, func(s *impl.Seen) { *s = seenOf(2, 0, 20, 1, 1, 1, 1, 1, 1) }),
		"Seq below 0":                with(3, func(s *impl.Seen) { s.Recent[0].Seq, s.Next = -1, 39 }),
		"Seq beyond":                 with(3, func(s *impl.Seen) { s.Recent[0].Seq, s.Recent[0].Many, s.Next = impl.MaxOffset+1, 1, impl.MaxOffset+2 }),
		"Seq beyond, and Many 0":     with(3, func(s *impl.Seen) { s.Recent[0].Seq, s.Recent[0].Many, s.Next = impl.MaxOffset+1, 0, impl.MaxOffset+1 }),
		"greatest Seq":               with(3, func(s *impl.Seen) { s.Recent[0].Seq, s.Recent[0].Many, s.Next = math.MaxInt, 1, 0 }),
		"Many 0":                     with(3, func(s *impl.Seen) { s.Recent[0].Many, s.Next = 0, 0 }),
		"Many below 0":               with(3, func(s *impl.Seen) { s.Recent[0].Seq, s.Recent[0].Many, s.Next = 5, -1, 4 }),
		"Many beyond":                with(3, func(s *impl.Seen) { s.Recent[0].Many, s.Next = 41, 41 }),
		"Many beyond, not the last":  with(0, func(s *impl.Seen) { s.Recent[0].Many, s.Recent[1].Seq, s.Next = 41, 45, 48 }),
		"Offset below 0":             with(1, func(s *impl.Seen) { s.Recent[0].Offset = -1 }),
		"Offset beyond":              with(1, func(s *impl.Seen) { s.Recent[4].Offset = impl.MaxOffset + 1 }),
		"a Seq more than it should":  with(0, func(s *impl.Seen) { s.Recent[1].Seq, s.Next = 7, 10 }),
		"a Seq less than it should":  with(0, func(s *impl.Seen) { s.Recent[1].Seq, s.Next = 5, 8 }),
		"a first Seq that is less":   with(1, func(s *impl.Seen) { s.Recent[0].Seq-- }),
		"one in the midst":           with(1, func(s *impl.Seen) { s.Recent[2].Seq++ }),
		"a Many in the midst":        with(1, func(s *impl.Seen) { s.Recent[2].Many-- }),
		"a last Many":                with(1, func(s *impl.Seen) { s.Recent[4].Many++ }),
		"one Seq twice":              with(1, func(s *impl.Seen) { s.Recent[3] = s.Recent[4] }),
		"Recent the newest first":    with(1, func(s *impl.Seen) { slices.Reverse(s.Recent) }),
		"a Recent of the zero value": with(2, func(s *impl.Seen) { s.Recent = []impl.Recent{{}} }),
	}
}

// What is no table is refused by whatever takes one.
func TestWhatIsNoTableIsRefused(t *testing.T) {
	for name, do := range badTables() {
		list := do(guests())
		if tableOkAsTold(list) || impl.TableOk(list) {
			t.Errorf("taken: %s", name)
		}
		mustTakeNothing(t, name, list)
	}
}

// mustTakeNothing: each batch, right or not, with a producer or without, is TakeBad.
func mustTakeNothing(t *testing.T, name string, list []impl.Seen) {
	t.Helper()
	for _, b := range []impl.Batch{sentBy(5, 4, 20, 1), sentBy(7, 0, 0, 2), bare(3, 1), marker("commit"), {}} {
		if x, code, offset := impl.Take(list, b); code != impl.TakeBad || offset != -1 || len(x) != 0 {
			t.Errorf("%s: %+v %d %d", name, x, code, offset)
		}
	}
}

// randomTable is always right; few producers, so that batches meet them.
func randomTable(r *rand.Rand) []impl.Seen {
	list := []impl.Seen{}
	producer := -1
	for range pick(r, 0, 1, 2, 3, 4) {
		producer += 1 + r.Intn(3)
		sizes := []int{}
		total := 0
		for range r.Intn(6) {
			sizes = append(sizes, pick(r, 1, 1, 2, 3, 40))
			total += sizes[len(sizes)-1]
		}
		next := total + pick(r, 0, 0, 1, r.Intn(50))
		if r.Intn(10) == 0 {
			next = impl.MaxOffset + 1 - r.Intn(3)
		}
		list = append(list, seenOf(producer, pick(r, 0, 1, 2, impl.MaxTurn), next, sizes...))
	}
	return list
}

// spoilTable changes one thing of a table, mostly so that it is one no more.
func spoilTable(r *rand.Rand, list []impl.Seen) []impl.Seen {
	if len(list) == 0 {
		return crowd(pick(r, 100, 101))
	}
	s := &list[r.Intn(len(list))]
	step := pick(r, -2, -1, 1, 2)
	none := impl.Recent{}
	x := &none
	if len(s.Recent) > 0 {
		x = &s.Recent[r.Intn(len(s.Recent))]
	}
	switch r.Intn(8) {
	case 0:
		s.Producer = pick(r, -1, impl.MaxOffset, impl.MaxOffset+1, s.Producer+step)
	case 1:
		s.Turn = pick(r, -1, impl.MaxTurn, impl.MaxTurn+1, s.Turn+step)
	case 2:
		s.Next = pick(r, -1, impl.MaxOffset+1, impl.MaxOffset+2, s.Next+step)
	case 3:
		x.Seq += step
	case 4:
		x.Many = pick(r, 0, 1, 40, 41, x.Many+step)
	case 5:
		x.Offset = pick(r, -1, 0, impl.MaxOffset, impl.MaxOffset+1)
	case 6:
		s.Recent = slices.Delete(s.Recent, 0, r.Intn(len(s.Recent)+1))
	case 7:
		s.Recent = append(s.Recent, impl.Recent{Seq: s.Next, Many: 1})
		s.Next++
	}
	return list
}

func TestTableOkIsAsTold(t *testing.T) {
	r := rand.New(rand.NewSource(80))
	taken, refused := 0, 0
	for range 20000 {
		list := randomTable(r)
		if !tableOkAsTold(list) || !impl.TableOk(list) {
			t.Fatalf("refused: %+v", list)
		}
		list = spoilTable(r, list)
		want := tableOkAsTold(list)
		if impl.TableOk(list) != want {
			t.Fatalf("TableOk is %v: %+v", !want, list)
		}
		if want {
			taken++
			continue
		}
		refused++
		mustTakeNothing(t, "at random", list)
	}
	if taken < 2000 || refused < 2000 {
		t.Error("the tables to try are too much alike:", taken, refused)
	}
}
