package tests

import (
	"math/rand"
	"slices"
	"testing"

	"loop.example/g00035/impl"
)

// toStream is a query with its inputs and an order, all of them right, and few enough to come.
func toStream(r *rand.Rand) (impl.Query, []impl.Source, [][]impl.Arrival, []int) {
	for {
		q, list, inputs := tableToTry(r)
		if q.Join != "" && r.Intn(3) > 0 {
			q.Within = pick(r, 5, 60, 1000, impl.MaxTime)
		}
		if outsideAsTold(q, list) == nil || !inputsOkAsTold(list, inputs) {
			continue
		}
		order := []int{}
		for range pick(r, 0, 20, 100) {
			order = append(order, r.Intn(len(list)))
		}
		return q, list, inputs, order
	}
}

// leastStill is the greatest mark that a source can have ahead of those comings without one of them being late.
func leastStill(coming []impl.Coming, place int) int {
	least := impl.MaxTime + 1
	for _, c := range coming {
		if c.Mark < 0 && c.Source == place {
			least = min(least, c.Arrival.Time)
		}
	}
	return least
}

// morePutIn puts in marks that say no more than is so: none is above what comes still of its source.
func morePutIn(r *rand.Rand, list []impl.Source, coming []impl.Coming) []impl.Coming {
	out := slices.Clone(coming)
	for range r.Intn(10) {
		at, place := r.Intn(len(out)+1), r.Intn(len(list))
		least := leastStill(out[at:], place)
		out = slices.Insert(out, at, impl.Coming{Source: place, Mark: pick(r, least, least, r.Intn(least+1))})
	}
	return out
}

// P27: when none is late and all have ended, what a stream told is what the table tells, in whatever order arrivals come.
func TestStreamsTellWhatTablesTell(t *testing.T) {
	r := rand.New(rand.NewSource(195))
	seen := map[string]int{}
	for range 6000 {
		q, list, inputs, order := toStream(r)
		coming := impl.Ends(list, inputs, order)
		if len(coming) == 0 {
			seen["too many"]++
			continue
		}
		want, ok := impl.RunTable(q, list, inputs)
		if more := morePutIn(r, list, coming); len(more) <= 400 {
			coming = more
		}
		outs, late, told := impl.RunStream(q, list, coming)
		if rows := rowsOf(outs); late != 0 || told != ok || !sameRows(rows, want) {
			t.Fatalf("%+v of %+v: %v %d %v, but as a table %v %v", q, coming, rows, late, told, want, ok)
		}
		switch {
		case len(want) < 2:
			seen["little"]++
		case q.Join != "":
			seen["joined"]++
		case q.Lookup != "":
			seen["looked up"]++
		default:
			seen["of one"]++
		}
		if len(want) > 1 && len(q.Groups) > 0 && outs[0].At < outs[len(outs)-1].At {
			seen["windows at several comings"]++
		}
	}
	for _, kind := range []string{"joined", "looked up", "of one", "windows at several comings"} {
		if seen[kind] < 200 {
			t.Error("the queries are too much alike:", seen)
		}
	}
}

// Whatever is late counts for nothing: what is told is what is told without it.
func TestStreamsTellWhatTablesTellOfWhatIsNotLate(t *testing.T) {
	r := rand.New(rand.NewSource(196))
	lates, many := 0, 0
	for range 6000 {
		q, list, coming := streamToTry(r)
		outs, late, ok := impl.RunStream(q, list, coming)
		if !ok {
			continue
		}
		s := standingAsTold(list, coming)
		for place := range list {
			coming = append(coming, impl.Coming{Source: place, Mark: impl.MaxTime + 1})
		}
		all, still, _ := impl.RunStream(q, list, coming)
		want, told := impl.RunTable(q, list, s.arrivals)
		if rows := rowsOf(all); !told || late != s.late || still != late || !sameRows(rows, want) {
			t.Fatalf("%+v of %+v: %v %d, but as a table %v, late %d", q, coming, rows, late, want, s.late)
		}
		lates += min(late, 1)
		many += min(len(outs), 1)
	}
	if lates < 500 || many < 500 {
		t.Error("the comings are too much alike:", lates, many)
	}
}

// P27: what was told stays the beginning of what is told.
func TestStreamsBeginnings(t *testing.T) {
	r := rand.New(rand.NewSource(197))
	grown, lates := 0, 0
	for range 3000 {
		q, list, coming := streamToTry(r)
		all, late, ok := impl.RunStream(q, list, coming)
		if !ok {
			continue
		}
		for end := range coming {
			outs, n, ok := impl.RunStream(q, list, coming[:end])
			told := slices.DeleteFunc(slices.Clone(all), func(out impl.Out) bool { return out.At >= end })
			if !ok || n > late || !sameOuts(outs, all[:len(outs)]) || !sameOuts(outs, told) {
				t.Fatalf("%+v of %+v: %v %d %v at %d, in the end %v %d", q, coming, outs, n, ok, end, all, late)
			}
			if 0 < len(outs) && len(outs) < len(all) {
				grown++
			}
		}
		lates += min(late, 1)
	}
	if grown < 3000 || lates < 300 {
		t.Error("the comings are too much alike:", grown, lates)
	}
}

// A mark more makes nothing wrong: it may tell sooner, but in the end all is told that was told, and no more.
func TestStreamsWithAMarkMore(t *testing.T) {
	r := rand.New(rand.NewSource(198))
	sooner := 0
	for range 6000 {
		q, list, inputs, order := toStream(r)
		coming := impl.Ends(list, inputs, order)
		outs, _, ok := impl.RunStream(q, list, coming)
		at := r.Intn(len(coming) + 1)
		if !ok || len(coming) > 399 || len(coming) == 0 {
			continue
		}
		place := r.Intn(len(list))
		least := leastStill(coming[at:], place)
		more, late, ok := impl.RunStream(q, list, slices.Insert(slices.Clone(coming), at, impl.Coming{Source: place, Mark: least}))
		if late != 0 || !ok || !sameRows(rowsOf(more), rowsOf(outs)) {
			t.Fatalf("%+v of %+v with a mark %d of %d at %d: %v %d %v, not %v", q, coming, least, place, at, more, late, ok, outs)
		}
		for i := range outs {
			if more[i].At < outs[i].At {
				sooner++
				break
			}
		}
	}
	if sooner < 100 {
		t.Error("the marks are too much alike:", sooner)
	}
}
