package tests

import (
	"fmt"
	"math/rand"
	"reflect"
	"runtime"
	"slices"
	"sync"
	"testing"

	"loop.example/g00035/impl"
)

var comingBehind = impl.Coming{Source: -7, Arrival: arrivalBehind, Mark: -7}

func plainComing(coming []impl.Coming) []impl.Coming {
	coming = append([]impl.Coming(nil), coming...)
	for i, c := range coming {
		coming[i].Arrival.Row = append([]int(nil), c.Arrival.Row...)
	}
	return coming
}

// roomyComing is a copy all of whose lists have spare room behind them, filled with what must stay.
func roomyComing(coming []impl.Coming) []impl.Coming {
	coming = plainComing(coming)
	for i, c := range coming {
		coming[i].Arrival.Row = withRoom(c.Arrival.Row, -7)
	}
	return withRoom(coming, comingBehind)
}

func wholeComing(coming []impl.Coming) []impl.Coming {
	coming = withAllRoom(coming)
	for i, c := range coming {
		coming[i].Arrival.Row = withAllRoom(c.Arrival.Row)
	}
	return coming
}

// A streamTry is what the functions of streams are asked with.
type streamTry struct {
	q      impl.Query
	list   []impl.Source
	coming []impl.Coming
	inputs [][]impl.Arrival
	order  []int
}

func newStreamTry(r *rand.Rand) streamTry {
	q, list, coming := streamToTry(r)
	inputs, order := [][]impl.Arrival(nil), []int{}
	if len(list) > 0 {
		inputs = randomInputs(r, list)
		for range r.Intn(30) {
			order = append(order, r.Intn(len(list)))
		}
	}
	return streamTry{roomyQuery(q), roomySources(list), roomyComing(coming), roomyInputs(inputs), withRoom(order, 0)}
}

// bare is the same without spare room.
func (x streamTry) bare() streamTry {
	return streamTry{plainQuery(x.q), plainSources(x.list), plainComing(x.coming), plainInputs(x.inputs), slices.Clip(slices.Clone(x.order))}
}

// whole tells all of it with all that stands in the room behind its lists.
func (x streamTry) whole() streamTry {
	return streamTry{wholeQuery(x.q), wholeSources(x.list), wholeComing(x.coming), wholeInputs(x.inputs), withAllRoom(x.order)}
}

// A streamAnswer is all that is answered of a try.
type streamAnswer struct {
	outs []impl.Out
	late int
	ok   bool
	ends []impl.Coming
}

func (x streamTry) ask() streamAnswer {
	y := streamAnswer{ends: impl.Ends(x.list, x.inputs, x.order)}
	y.outs, y.late, y.ok = impl.RunStream(x.q, x.list, x.coming)
	return y
}

func (y streamAnswer) same(other streamAnswer) bool {
	return y.late == other.late && y.ok == other.ok && sameOuts(y.outs, other.outs) && sameComings(y.ends, other.ends)
}

func (y streamAnswer) overwrite() {
	for i, out := range y.outs {
		overwriteNumbers([][]int{out.Row})
		y.outs[i] = impl.Out{At: -7}
	}
	_ = append(y.outs, impl.Out{At: -7})
	for i, c := range y.ends {
		overwriteNumbers([][]int{c.Arrival.Row})
		y.ends[i] = comingBehind
	}
	_ = append(y.ends, comingBehind)
}

func TestStreamsLeaveArgumentsAlone(t *testing.T) {
	r := rand.New(rand.NewSource(199))
	for range 4000 {
		x := newStreamTry(r)
		was := x.whole()
		x.ask()
		if !reflect.DeepEqual(x.whole(), was) {
			t.Fatalf("an argument was changed: %+v, now %+v", was, x.whole())
		}
	}
}

// What lies behind a list's length is not looked at.
func TestStreamsLookNotBehindTheLength(t *testing.T) {
	r := rand.New(rand.NewSource(200))
	for range 4000 {
		x := newStreamTry(r)
		if got, want := x.ask(), x.bare().ask(); !got.same(want) {
			t.Fatalf("another answer with room: %+v: %+v, not %+v", x.bare(), got, want)
		}
	}
}

func TestStreamsAnswersAreNewMemory(t *testing.T) {
	r := rand.New(rand.NewSource(201))
	told, ended := 0, 0
	for range 4000 {
		x := newStreamTry(r)
		one, other := x.ask(), x.ask()
		given := []any{x.q, x.list, x.coming, x.inputs, x.order}
		mustBeNew(t, "RunStream", one.outs, append(given, other.outs, one.ends)...)
		mustBeNew(t, "Ends", one.ends, append(given, other.ends)...)
		was := x.whole()
		one.overwrite()
		if !reflect.DeepEqual(x.whole(), was) {
			t.Fatalf("an answer shares memory: %+v, now %+v", was, x.whole())
		}
		if last := x.ask(); !last.same(other) {
			t.Fatalf("%+v, and before that %+v", last, other)
		}
		told += min(len(other.outs), 1)
		ended += min(len(other.ends), 1)
	}
	if told < 800 || ended < 800 {
		t.Error("what is to be tried is too much alike:", told, ended)
	}
}

// What is done to comings behind an answer is not to be seen in it.
func TestStreamsAnswersAreDone(t *testing.T) {
	list := sourcesIn("s a b", "t a c", "u! a d")
	for _, text := range []string{"from s get b as x, a as y", "from s join t within 5 on a get b as x", "from s lookup u on a get b as x, d as y", "from s group a,b tumble 5 get sum b as n"} {
		coming := comes("0@3:1,10 1@4:1,20 2@2:1,30 0@4:1,11 0>5 1>5 2>5 0@7:2,9 0>end 1>end 2>end")
		want, _, _ := streamAsTold(asked(text), list, plainComing(coming))
		outs, _, ok := impl.RunStream(asked(text), list, coming)
		for i, c := range coming {
			overwriteNumbers([][]int{c.Arrival.Row})
			coming[i] = comingBehind
		}
		if !ok || len(want) == 0 || !sameOuts(outs, want) {
			t.Errorf("%s: %v, not %v", text, outs, want)
		}
	}
	inputs := [][]impl.Arrival{came("3:1,10 9:2,2"), came("4:1,20"), came("2:1,30!")}
	got := impl.Ends(list, inputs, []int{1, 0})
	for _, arrivals := range inputs {
		for i, a := range arrivals {
			overwriteNumbers([][]int{a.Row})
			arrivals[i] = arrivalBehind
		}
	}
	if want := comes("1>4 1@4:1,20 0>3 0@3:1,10 0>9 0@9:2,2 2>2 2@2:1,30! 0>end 1>end 2>end"); !sameComings(got, want) {
		t.Errorf("%v, not %v", got, want)
	}
}

// The answers are the same at each run, whatever else runs, and on however many processors.
func TestStreamsAnswerTheSameAtEachRun(t *testing.T) {
	defer runtime.GOMAXPROCS(runtime.GOMAXPROCS(0))
	r := rand.New(rand.NewSource(202))
	tries, want := []streamTry{}, []streamAnswer{}
	for range 200 {
		x := newStreamTry(r)
		tries, want = append(tries, x), append(want, x.ask())
	}
	wide := streamTry{q: asked("from s join t within 1 on a group a,b hop 4 2 get count as n, sum c as m"), list: sourcesIn("s a b", "t a c"), order: []int{1, 0, 1}}
	for _, products := range [][][2]int{{{50, 60}}, {{50, 60}, {1, 1}}, {{30, 30}, {20, 20}, {1, 5}}, {{150, 150}}} {
		wide.inputs, wide.coming = crossing(products...), append(crossed(products...), comes("0>end 1>6 1>end")...)
		tries, want = append(tries, wide), append(want, wide.ask())
	}
	for _, processors := range []int{1, 2, 8} {
		runtime.GOMAXPROCS(processors)
		group := sync.WaitGroup{}
		for range 4 {
			group.Go(func() {
				for i, x := range tries {
					if got := x.ask(); !got.same(want[i]) {
						t.Errorf("%+v: %+v, and before that %+v", x.bare(), got, want[i])
					}
				}
			})
		}
		group.Wait()
	}
}

// The longest that may come: the most rows of one group, each in as many windows as there can be, and a mark behind each few of them.
func TestStreamsOfTheMost(t *testing.T) {
	list, coming := sourcesIn("s a b", "t a c"), []impl.Coming{}
	for i, c := range crossed([2]int{50, 60}) {
		c.Arrival.Time, c.Arrival.Row[1] = 100*i+19, i
		coming = append(coming, c)
		for place := range list {
			coming = append(coming, impl.Coming{Source: place, Mark: 100 * i})
		}
	}
	coming = append(coming, comes("0>end 1>end")...)
	for _, window := range []string{"hop 20 1", "hop 2000 100", "tumble 1", "session 100", ""} {
		q := windowing(window)
		q.From, q.Join, q.Within, q.On = "s", "t", impl.MaxTime, "a"
		q.Gets = append(q.Gets, asked("from s group a get sum (b * c) as c1, least (b - c) as c2, most (b % c) as c3, sum b as c4, sum c as c5").Gets...)
		want, _ := runTableAsTold(q, list, standingAsTold(list, coming).arrivals)
		outs, late, ok := impl.RunStream(q, list, coming)
		if late != 0 || !ok || len(want) == 0 || !sameRows(rowsOf(outs), want) {
			t.Errorf("%q: %d rows %d %v, not %d", window, len(outs), late, ok, len(want))
		}
	}
}

// Nothing stays from what was refused, or from what was done.
func TestStreamsKeepNothing(t *testing.T) {
	list := sourcesIn("s a b", "t a c")
	for i := range 3 {
		name := fmt.Sprint("once more ", i)
		mustStreamNothing(t, name, asked("from s join t within 1 on a get b as x"), list, crossed([2]int{50, 61}))
		mustStream(t, "from s join t within 9 on a get b as x", list, "0@5:1,10 1@6:1,7 0>7 0@6:1,1", "1:10", 1)
		mustStream(t, "from s join t within 9 on a get b as x", list, "1@6:1,7 0@6:1,1", "1:1", 0)
		mustStreamNothing(t, name, asked("from s get b as x"), list, comes("0@5:1,10 2>5"))
		mustStream(t, "from s group a tumble 10 get count as n", list, "0@5:1,10 0>end", "1:1,0,10,1", 0)
		mustStream(t, "from s group a tumble 10 get count as n", list, "0>9 0>10 0@5:1,10 0@10:1,1", "", 1)
		mustNotEnd(t, name, list, [][]impl.Arrival{rising(250), nil}, nil)
		mustEndAll(t, name, list, [][]impl.Arrival{came("5:1,10"), nil}, nil, comes("0>5 0@5:1,10 0>end 1>end"))
		mustEndAll(t, name, list, [][]impl.Arrival{came("2:1,10"), nil}, nil, comes("0>2 0@2:1,10 0>end 1>end"))
	}
}
