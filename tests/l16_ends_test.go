package tests

import (
	"fmt"
	"math"
	"math/rand"
	"slices"
	"testing"

	"loop.example/g00035/impl"
)

func sameComings(a []impl.Coming, b []impl.Coming) bool {
	return slices.EqualFunc(a, b, func(x, y impl.Coming) bool {
		return x.Source == y.Source && x.Mark == y.Mark && sameArrivals([]impl.Arrival{x.Arrival}, []impl.Arrival{y.Arrival})
	})
}

// arrivingAsTold are the arrivals in the order in which they come, without marks.
func arrivingAsTold(inputs [][]impl.Arrival, order []int) []impl.Coming {
	coming, taken := []impl.Coming{}, make([]int, len(inputs))
	for place, arrivals := range inputs {
		order = append(slices.Clone(order), slices.Repeat([]int{place}, len(arrivals))...)
	}
	for _, place := range order {
		if taken[place] < len(inputs[place]) {
			coming = append(coming, impl.Coming{Source: place, Arrival: inputs[place][taken[place]], Mark: -1})
		}
		taken[place]++
	}
	return coming
}

// endsAsTold puts the marks between the arrivals when all of these are in their order.
func endsAsTold(list []impl.Source, inputs [][]impl.Arrival, order []int) []impl.Coming {
	ok := inputsOkAsTold(list, inputs) && len(order) <= 400
	for _, place := range order {
		ok = ok && inBounds(place, 0, len(list)-1)
	}
	if !ok {
		return nil
	}
	out, marks := []impl.Coming{}, map[int]int{}
	arriving := arrivingAsTold(inputs, order)
	for at, c := range arriving {
		least := 1000000000000
		for _, later := range arriving[at:] {
			if later.Source == c.Source {
				least = min(least, later.Arrival.Time)
			}
		}
		if least > marks[c.Source] {
			out = append(out, impl.Coming{Source: c.Source, Mark: least})
			marks[c.Source] = least
		}
		out = append(out, c)
	}
	for place := range list {
		out = append(out, impl.Coming{Source: place, Mark: 1000000000001})
	}
	if len(out) > 400 {
		return nil
	}
	return out
}

func mustEndAll(t *testing.T, name string, list []impl.Source, inputs [][]impl.Arrival, order []int, want []impl.Coming) {
	t.Helper()
	if got := impl.Ends(list, inputs, order); !sameComings(got, want) {
		t.Errorf("%s: %+v in %v: %+v, not %+v", name, inputs, order, got, want)
	}
	if got := endsAsTold(list, inputs, order); !sameComings(got, want) {
		t.Errorf("%s, as told: %+v, not %+v", name, got, want)
	}
}

// mustEnd reads the arrivals of s, of t and of the table u, the order, and what comes out.
func mustEnd(t *testing.T, s string, other string, u string, order string, want string) {
	t.Helper()
	list := sourcesIn("s a b", "t a c", "u! a d")
	mustEndAll(t, s+", "+other+", "+u+" in "+order, list, [][]impl.Arrival{came(s), came(other), came(u)}, numbersIn(order), comes(want))
}

func mustNotEnd(t *testing.T, name string, list []impl.Source, inputs [][]impl.Arrival, order []int) {
	t.Helper()
	mustEndAll(t, name, list, inputs, order, nil)
}

func TestEndsWithoutAnOrder(t *testing.T) {
	mustEnd(t, "", "", "", "", "0>end 1>end 2>end")
	mustEnd(t, "5:1,1", "", "", "", "0>5 0@5:1,1 0>end 1>end 2>end")
	mustEnd(t, "", "5:1,1", "", "", "1>5 1@5:1,1 0>end 1>end 2>end")
	mustEnd(t, "5:1,1", "3:2,2", "4:3,3!", "", "0>5 0@5:1,1 1>3 1@3:2,2 2>4 2@4:3,3! 0>end 1>end 2>end")
	mustEnd(t, "5:1,1 6:2,2", "3:1,3 4:1,4", "", "", "0>5 0@5:1,1 0>6 0@6:2,2 1>3 1@3:1,3 1>4 1@4:1,4 0>end 1>end 2>end")
	mustEndAll(t, "one source alone", sourcesIn("s a"), [][]impl.Arrival{came("5:1 7:2")}, nil, comes("0>5 0@5:1 0>7 0@7:2 0>end"))
	mustEndAll(t, "no sources", nil, nil, nil, nil)
}

func TestEndsInAnOrder(t *testing.T) {
	mustEnd(t, "5:1,1 6:2,2", "3:1,3 4:1,4", "", "1,0,1,0", "1>3 1@3:1,3 0>5 0@5:1,1 1>4 1@4:1,4 0>6 0@6:2,2 0>end 1>end 2>end")
	mustEnd(t, "5:1,1 6:2,2", "3:1,3 4:1,4", "", "1,1,0,0", "1>3 1@3:1,3 1>4 1@4:1,4 0>5 0@5:1,1 0>6 0@6:2,2 0>end 1>end 2>end")
	mustEnd(t, "5:1,1", "3:2,2", "4:3,3!", "2,0,1", "2>4 2@4:3,3! 0>5 0@5:1,1 1>3 1@3:2,2 0>end 1>end 2>end")
	// What the order leaves comes source by source.
	mustEnd(t, "5:1,1 6:2,2 7:3,3", "3:1,3 4:1,4", "1:1,1", "1,0", "1>3 1@3:1,3 0>5 0@5:1,1 0>6 0@6:2,2 0>7 0@7:3,3 1>4 1@4:1,4 2>1 2@1:1,1 0>end 1>end 2>end")
	mustEnd(t, "5:1,1", "3:2,2", "4:3,3!", "2", "2>4 2@4:3,3! 0>5 0@5:1,1 1>3 1@3:2,2 0>end 1>end 2>end")
	// Places for which nothing is left are passed over, and the others stand for what is next still.
	mustEnd(t, "5:1,1", "3:2,2", "", "2,0,0,2,0,1,1,0", "0>5 0@5:1,1 1>3 1@3:2,2 0>end 1>end 2>end")
	mustEnd(t, "", "", "", "0,1,2,2,1,0", "0>end 1>end 2>end")
	mustEnd(t, "5:1,1", "3:2,2 4:2,3", "", "0,0,1,0,0,1", "0>5 0@5:1,1 1>3 1@3:2,2 1>4 1@4:2,3 0>end 1>end 2>end")
}

// A mark says the least Time of all that comes still of its source, where that is above the last one and above 0.
func TestEndsMarks(t *testing.T) {
	for times, want := range map[string]string{
		"5:1,1 6:1,2 9:1,3": "0>5 0@5:1,1 0>6 0@6:1,2 0>9 0@9:1,3", "9:1,1 6:1,2 5:1,3": "0>5 0@9:1,1 0@6:1,2 0@5:1,3", "7:1,1 7:1,2 7:1,3": "0>7 0@7:1,1 0@7:1,2 0@7:1,3",
		"7:1,1 4:1,2 9:1,3": "0>4 0@7:1,1 0@4:1,2 0>9 0@9:1,3", "4:1,1 7:1,2 6:1,3 6:1,4": "0>4 0@4:1,1 0>6 0@7:1,2 0@6:1,3 0@6:1,4", "4:1,1 4:1,2 5:1,3 5:1,4 6:1,5": "0>4 0@4:1,1 0@4:1,2 0>5 0@5:1,3 0@5:1,4 0>6 0@6:1,5",
		"0:1,1": "0@0:1,1", "0:1,1 0:1,2": "0@0:1,1 0@0:1,2", "9:1,1 0:1,2": "0@9:1,1 0@0:1,2", "0:1,1 1:1,2": "0@0:1,1 0>1 0@1:1,2", "5:1,1 0:1,2 3:1,3 2:1,4": "0@5:1,1 0@0:1,2 0>2 0@3:1,3 0@2:1,4",
		"1:1,1 0:1,2 1:1,3": "0@1:1,1 0@0:1,2 0>1 0@1:1,3", "1000000000000:1,1": "0>1000000000000 0@1000000000000:1,1", "1000000000000:1,1 0:1,2": "0@1000000000000:1,1 0@0:1,2",
	} {
		mustEnd(t, times, "", "", "", want+" 0>end 1>end 2>end")
		mustEnd(t, times, "", "", "0,0,0", want+" 0>end 1>end 2>end")
		// The marks of one source go by its own Times alone.
		mustEnd(t, times, "2:1,1", "0:1,1!", "2,1", "2@0:1,1! 1>2 1@2:1,1 "+want+" 0>end 1>end 2>end")
	}
	mustEnd(t, "9:1,1 2:1,2 8:1,3", "7:2,1 8:2,2 3:2,3", "", "0,1,0,1,0,1", "0>2 0@9:1,1 1>3 1@7:2,1 0@2:1,2 1@8:2,2 0>8 0@8:1,3 1@3:2,3 0>end 1>end 2>end")
}

func TestEndsOfAllSources(t *testing.T) {
	for count := 1; count <= 10; count++ {
		inputs, want := make([][]impl.Arrival, count), []impl.Coming{}
		for place := range count {
			want = append(want, impl.Coming{Source: place, Mark: impl.MaxTime + 1})
		}
		mustEndAll(t, fmt.Sprint("none comes of ", count), manySources(count), inputs, nil, want)
		inputs[count-1] = came("0:7")
		want = append([]impl.Coming{{Source: count - 1, Arrival: came("0:7")[0], Mark: -1}}, want...)
		mustEndAll(t, fmt.Sprint("one comes of ", count), manySources(count), inputs, nil, want)
		mustEndAll(t, fmt.Sprint("the last place of ", count), manySources(count), inputs, []int{0, count - 1, 0}, want)
		mustNotEnd(t, fmt.Sprint("a place behind the last of ", count), manySources(count), inputs, []int{0, count})
	}
	mustNotEnd(t, "too many sources", manySources(11), make([][]impl.Arrival, 11), nil)
}

func TestEndsOfAnOrderThatIsNotRight(t *testing.T) {
	list, inputs := sourcesIn("s a", "t a"), [][]impl.Arrival{came("3:1"), came("4:1")}
	for _, place := range []int{math.MinInt, -2, -1, 0, 1, 2, 3, math.MaxInt} {
		for at := range 5 {
			order := slices.Insert([]int{0, 1, 1, 0}, at, place)
			want := comes("0>3 0@3:1 1>4 1@4:1 0>end 1>end")
			if at == 0 && place == 1 {
				want = comes("1>4 1@4:1 0>3 0@3:1 0>end 1>end")
			}
			if !inBounds(place, 0, 1) {
				want = nil
			}
			mustEndAll(t, fmt.Sprint("a place ", place, " at ", at), list, inputs, order, want)
		}
	}
	for _, count := range []int{398, 399, 400, 401, 402, 5000} {
		want := comes("1>4 1@4:1 0>3 0@3:1 0>end 1>end")
		if count > 400 {
			want = nil
		}
		mustEndAll(t, fmt.Sprint("so many places ", count), list, inputs, slices.Repeat([]int{1}, count), want)
	}
	mustNotEnd(t, "a place, but no sources", nil, nil, []int{0})
}

// rising are arrivals of which each has a mark of its own.
func rising(count int) []impl.Arrival {
	list := []impl.Arrival{}
	for i := range count {
		list = append(list, impl.Arrival{Time: i + 1, Row: []int{i}})
	}
	return list
}

func TestEndsUpToMaxComing(t *testing.T) {
	for sources := 1; sources <= 10; sources++ {
		list := manySources(sources)
		for count := 190; count <= 202; count++ {
			for flat := range 3 {
				inputs := make([][]impl.Arrival, sources)
				inputs[sources-1] = rising(count)
				inputs[0] = append(inputs[0], slices.Repeat(came("0:7"), flat)...)
				if sources == 1 {
					inputs[0] = append(inputs[0][count:], inputs[0][:count]...)
				}
				all := 2*count + flat + sources
				if got := len(impl.Ends(list, inputs, nil)); all <= 400 && got != all || all > 400 && got != 0 {
					t.Errorf("sources %d, arrivals %d, without marks %d: %d comings", sources, count, flat, got)
				}
				mustEndAll(t, "at the most", list, inputs, []int{sources - 1, 0}, endsAsTold(list, inputs, []int{sources - 1, 0}))
			}
		}
	}
	mustEndAll(t, "MaxArrivals", sourcesIn("s a"), [][]impl.Arrival{cameAt("7", slices.Repeat([]int{0}, 300)...)}, nil, append(manyComings(300, "0@0:7"), comes("0>end")...))
	mustNotEnd(t, "one arrival more", sourcesIn("s a"), [][]impl.Arrival{cameAt("7", slices.Repeat([]int{0}, 301)...)}, nil)
	mustNotEnd(t, "MaxArrivals that rise", sourcesIn("s a"), [][]impl.Arrival{rising(300)}, nil)
	fall := rising(300)
	slices.Reverse(fall)
	if got := impl.Ends(sourcesIn("s a"), [][]impl.Arrival{fall}, nil); len(got) != 302 || got[0].Mark != 1 {
		t.Error("MaxArrivals that fall:", len(got))
	}
}

func TestEndsOfInputsThatAreNotRight(t *testing.T) {
	list := sourcesIn("s a b", "u! a d")
	mustEndAll(t, "as it is", list, [][]impl.Arrival{came("3:1,10"), came("2:1,30!")}, []int{1}, comes("1>2 1@2:1,30! 0>3 0@3:1,10 0>end 1>end"))
	for name, inputs := range map[string][][]impl.Arrival{
		"none": nil, "one fewer": {came("3:1,10")}, "one more": {came("3:1,10"), came("2:1,30"), nil}, "Gone in a stream": {came("3:1,10!"), nil}, "a short Row": {came("3:1"), nil}, "a long Row": {nil, came("3:1,2,3")},
		"no Row": {came("3:"), nil}, "a Time below 0": {came("-1:1,2"), nil}, "a Time beyond MaxTime": {nil, came("1000000000001:1,2")}, "a number beyond MaxInt": {nil, came("3:1,1000000000000001!")}, "the last one is none": {came("3:1,10 4:1,10 5:1"), nil},
	} {
		mustNotEnd(t, name, list, inputs, nil)
		mustNotEnd(t, name, list, inputs, []int{0, 1})
	}
	mustNotEnd(t, "a source twice", sourcesIn("s a", "s a"), [][]impl.Arrival{nil, nil}, nil)
	mustNotEnd(t, "no columns", sourcesIn("s"), [][]impl.Arrival{nil}, nil)
}

// endsToTry are inputs and an order; most of them are right.
func endsToTry(r *rand.Rand) ([]impl.Source, [][]impl.Arrival, []int) {
	_, list, inputs := tableToTry(r)
	order := []int{}
	for range pick(r, 0, 3, 20, 60, 200) {
		order = append(order, r.Intn(max(1, len(list))))
		if r.Intn(1000) == 0 {
			order = append(order, pick(r, -1, len(list)))
		}
	}
	return list, inputs, order
}

func TestEndsIsAsTold(t *testing.T) {
	r := rand.New(rand.NewSource(194))
	nothing, marks, without := 0, 0, 0
	for range 20000 {
		list, inputs, order := endsToTry(r)
		want := endsAsTold(list, inputs, order)
		mustEndAll(t, "at random", list, inputs, order, want)
		if t.Failed() {
			return
		}
		if len(want) == 0 {
			nothing++
		}
		for i, c := range want {
			if c.Mark < 0 && i > 0 && want[i-1].Mark >= 0 {
				marks++
			} else if c.Mark < 0 {
				without++
			}
		}
	}
	if nothing < 500 || marks < 20000 || without < 20000 {
		t.Error("the inputs are too much alike:", nothing, marks, without)
	}
}
