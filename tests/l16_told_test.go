package tests

import (
	"fmt"
	"math/rand"
	"slices"
	"testing"

	"loop.example/g00035/impl"
)

func TestStreamsTellWindowsAtTheirEnds(t *testing.T) {
	list := sourcesIn("s a b")
	for text, want := range map[string]string{
		"from s group a tumble 10 get count as n":  "2:1,0,10,1 4:1,10,20,1",
		"from s group a hop 10 5 get count as n":   "2:1,0,10,1 3:1,5,15,1 4:1,10,20,1",
		"from s group a session 5 get count as n":  "2:1,4,10,1 3:1,11,17,1",
		"from s group a session 10 get count as n": "4:1,4,22,2",
		"from s group a get count as n":            "5:1,2",
	} {
		mustStream(t, text, list, "0@4:1,7 0@11:1,8 0>10 0>17 0>22 0>end", want, 0)
		mustStream(t, text, list, "0@4:1,7 0@11:1,8 0>10 0>17 0>22 0>end 0>end 0>3", want, 0)
	}
	mustStream(t, "from s group a tumble 10 get count as n", list, "0@4:1,7 0>9 0>10", "2:1,0,10,1", 0)
	mustStream(t, "from s group a tumble 10 get count as n", list, "0@0:1,7 0>9 0@9:1,8 0>11", "3:1,0,10,2", 0)
	mustStream(t, "from s group a tumble 1 get count as n", list, "0@0:1,7 0@1:1,8 0>1 0>2", "2:1,0,1,1 3:1,1,2,1", 0)
	mustStream(t, "from s group a hop 10 3 get count as n", list, "0@10:1,7 0>12 0>13 0>15 0>16 0>18 0>19 0>30", "2:1,3,13,1 4:1,6,16,1 6:1,9,19,1", 0)
	mustStream(t, "from s group a session 3 get count as n", list, "0@10:1,7 0>10 0>13 0>14", "3:1,10,14,1", 0)
	// All rows are there long ahead of the mark that tells of them.
	mustStream(t, "from s group a tumble 10 get sum b as n", list, "0@4:1,7 0@30:1,1 0@25:1,2 0@5:1,9 0>5 0@6:1,3 0>9 0>10", "7:1,0,10,19", 0)
}

// For each end: one mark below it tells nothing, the mark itself does, and a mark above it too.
func TestStreamsTellJustAtTheEnd(t *testing.T) {
	list := sourcesIn("s a b", "t a c", "u! a d")
	for _, window := range []string{"tumble 7", "tumble 500", "hop 7 7", "session 3", "session 40"} {
		for _, time := range []int{0, 6, 7, 100, 12345, impl.MaxTime / 2} {
			q := asked("from s group a " + window + " get count as n")
			span := windowsAsTold(q, []int{time})[0]
			row := impl.Out{Row: []int{1, span[0], span[1], 1}}
			for _, by := range []int{-1, 0, 1, 1000} {
				coming := []impl.Coming{{Arrival: impl.Arrival{Time: time, Row: []int{1, 2}}, Mark: -1}, {Mark: span[1] + by}, {Mark: span[1] + 2000}}
				row.At = 1
				if by < 0 {
					row.At = 2
				}
				mustStreamAll(t, fmt.Sprint(window, " of ", time, ", by ", by), q, list, coming, []impl.Out{row}, 0)
				for _, place := range []int{1, 2} {
					mustTellBeside(t, window, place, time, span, by)
				}
			}
		}
	}
}

// mustTellBeside: with a Join or a Lookup both marks must be there, whichever comes last.
func mustTellBeside(t *testing.T, window string, place int, time int, span []int, by int) {
	t.Helper()
	list := sourcesIn("s a b", "t a c", "u! a d")
	q := asked("from s join t within 5 on a group a " + window + " get count as n")
	if place == 2 {
		q = asked("from s lookup u on a group a " + window + " get count as n")
	}
	for _, last := range []int{0, place} {
		coming := []impl.Coming{}
		for _, source := range []int{0, place} {
			coming = append(coming, impl.Coming{Source: source, Arrival: impl.Arrival{Time: time, Row: []int{1, 2}}, Mark: -1})
		}
		coming = append(coming, impl.Coming{Source: place - last, Mark: impl.MaxTime + 1}, impl.Coming{Source: last, Mark: span[1] + by}, impl.Coming{Source: last, Mark: span[1] + 2000})
		out := impl.Out{At: 3, Row: []int{1, span[0], span[1], 1}}
		if by < 0 {
			out.At = 4
		}
		mustStreamAll(t, fmt.Sprint(window, " of ", time, " with ", place, ", last ", last, ", by ", by), q, list, coming, []impl.Out{out}, 0)
	}
}

// Where the end is above MaxTime + 1 it is told there.
func TestStreamsTellWhatHasNoEnd(t *testing.T) {
	list := sourcesIn("s a b", "t a c")
	mustStream(t, "from s group a get count as n, sum b as m", list, "0@4:1,7 0@9:2,1 0@1000000000000:1,3 0>1000000000000 0>end", "4:1,2,10 4:2,1,1", 0)
	mustStream(t, "from s group a tumble 1000000000000 get count as n", list, "0@4:1,7 0@1000000000000:1,3 0>999999999999 0>1000000000000 0>end", "3:1,0,1000000000000,1 4:1,1000000000000,2000000000000,1", 0)
	mustStream(t, "from s group a tumble 73 get count as n", list, "0@1000000000000:1,3 0>1000000000000 0>end", "2:1,999999999928,1000000000001,1", 0)
	mustStream(t, "from s group a tumble 3 get count as n", list, "0@1000000000000:1,3 0>1000000000000 0>end", "2:1,999999999999,1000000000002,1", 0)
	mustStream(t, "from s group a tumble 1 get count as n", list, "0@999999999999:1,3 0@1000000000000:1,3 0>1000000000000 0>end", "2:1,999999999999,1000000000000,1 3:1,1000000000000,1000000000001,1", 0)
	mustStream(t, "from s group a hop 4 2 get count as n", list, "0@999999999999:1,3 0@1000000000000:1,3 0>1000000000000 0>end", "2:1,999999999996,1000000000000,1 3:1,999999999998,1000000000002,2 3:1,1000000000000,1000000000004,1", 0)
	mustStream(t, "from s group a session 5 get count as n", list, "0@999999999990:1,3 0@999999999995:1,3 0@999999999994:2,3 0@1000000000000:3,3 0>1000000000000 0>end", "4:2,999999999994,1000000000000,1 5:1,999999999990,1000000000001,2 5:3,1000000000000,1000000000006,1", 0)
	mustStream(t, "from s group a session 1000000000000 get count as n", list, "0@0:1,3 0@1000000000000:1,3 0>1000000000000 0>end", "3:1,0,2000000000001,2", 0)
	mustStream(t, "from s join t within 9 on a group a get count as n", list, "0@4:1,7 1@9:1,8 0>end 1>1000000000000 0@5:1,7 1@1000000000000:1,1 1>end", "6:1,1", 1)
	mustStream(t, "from s join t within 9 on a group a session 1000000000000 get count as n", list, "0@4:1,7 1@9:1,8 0>end 1>1000000000000 1>end", "4:1,9,1000000000010,1", 0)
}

// A session grows by what comes till its end is told; one that comes between joins two.
func TestStreamsTellSessions(t *testing.T) {
	list, text := sourcesIn("s a b"), "from s group a session 5 get count as n, sum b as m"
	mustStream(t, text, list, "0@10:1,1 0>15 0@15:1,2 0>16 0@16:1,4 0>20 0@21:1,8 0>26 0>27", "8:1,10,27,4,15", 0)
	mustStream(t, text, list, "0@10:1,1 0>16 0@16:1,2 0>21 0@22:1,4 0>27 0>28", "1:1,10,16,1,1 5:1,16,22,1,2 6:1,22,28,1,4", 0)
	mustStream(t, text, list, "0@10:1,1 0@20:1,2 0>10 0@15:1,4 0>16 0>26", "5:1,10,26,3,7", 0)
	mustStream(t, text, list, "0@10:1,1 0@20:1,2 0@15:2,4 0>16 0>26", "3:1,10,16,1,1 4:1,20,26,1,2 4:2,15,21,1,4", 0)
	mustStream(t, text, list, "0@10:1,1 0@20:1,2 0>16 0@17:1,4 0>26", "2:1,10,16,1,1 4:1,17,26,2,6", 0)
	mustStream(t, text, list, "0@10:1,1 0@5:1,2 0@15:1,4 0@5:1,8 0@0:1,16 0>21", "5:1,0,21,5,31", 0)
	mustStream(t, text, list, "0@10:1,1 0>11 0@10:1,2 0>16", "3:1,10,16,1,1", 1)
	two := sourcesIn("s a b", "t a c")
	mustStream(t, "from s join t within 5 on a group a session 5 get count as n", two, "0@10:1,1 1@12:1,2 0>18 1>16 1@16:1,7 0>22 1@15:1,1 1>22 1@22:1,1 0>99 1>99", "7:1,12,18,1", 1)
	mustStream(t, "from s join t within 9 on a group a session 5 get count as n", two, "0@10:1,1 1@12:1,2 0>18 1>16 1@16:1,7 0>22 1@15:1,1 1>22 1@22:1,1 0>99 1>99", "7:1,12,22,2", 1)
}

// Behind a mark that is behind, nothing is told: W is the least one of those that the query names.
func TestStreamsTellByTheLeastMark(t *testing.T) {
	list := sourcesIn("s a b", "t a c", "u! a d", "v a b")
	join := "from s join t within 20 on a group a tumble 10 get count as n, sum c as m"
	mustStream(t, join, list, "0@4:1,7 1@5:1,1 0>30 1@7:1,2 1>9 1@9:1,4 1>10", "6:1,0,10,3,7", 0)
	mustStream(t, join, list, "0@4:1,7 1@5:1,1 1>30 0@7:1,2 0>9 0@9:1,4 0>10", "6:1,0,10,3,3", 0)
	mustStream(t, join, list, "0@4:1,7 1@5:1,1 0>end 2>end 3>end 1>5 1@11:1,3 1>20 1@18:1,5", "7:1,0,10,1,1 7:1,10,20,1,3", 1)
	look := "from s lookup u on a group a,d tumble 10 get count as n, sum b as m"
	mustStream(t, look, list, "0@4:1,7 0@11:1,1 2@4:1,5 0>30 2>5 2@6:1,6 2>10 2@10:2,6 2>19 2>20", "6:1,5,0,10,1,7 9:1,6,10,20,1,1", 0)
	mustStream(t, look, list, "0@4:1,7 2@4:1,5 2>end 0>4 0@4:1,1 0>9 0@9:1,2 0@11:1,1 0>10", "8:1,5,0,10,3,10", 0)
	mustStream(t, look, list, "0@4:1,7 0@5:2,8 2@5:2,5 0>end 2>9 2@9:1,1 2>end", "6:2,5,0,10,1,8", 0)
	// A row that is there only by the mark that tells of its window is in it.
	mustStream(t, look, list, "2@0:1,5 0@8:1,7 0@9:1,8 0@12:1,9 0>30 2>9 2>10", "6:1,5,0,10,2,15", 0)
	mustStream(t, look, list, "2@0:1,5 0@8:1,7 0@9:1,8 0@12:1,9 0>30 2>40", "5:1,5,0,10,2,15 5:1,5,10,20,1,9", 0)
	// Sources that the query does not name hold nothing up, and bring nothing on.
	mustStream(t, "from s group a tumble 10 get count as n", list, "0@4:1,7 1@1:1,1 3@2:1,1 1>end 2>end 3>end 0>10", "6:1,0,10,1", 0)
	mustStream(t, join, list, "0@4:1,7 1@5:1,1 0>12 1>11", "3:1,0,10,1,1", 0)
}

func TestStreamsTellManyWindowsAtOnce(t *testing.T) {
	list := sourcesIn("s a b")
	mustStream(t, "from s group a tumble 5 get count as n", list, "0@100:-1,0 0@20:-1,0 0@5:-1,0 0@7:10,0 0@5:9,0 0@6:9,1 0>end", "6:-1,5,10,1 6:-1,20,25,1 6:-1,100,105,1 6:9,5,10,2 6:10,5,10,1", 0)
	mustStream(t, "from s group b,a session 2 get count as n", list, "0@100:-1,3 0@20:-1,0 0@5:7,0 0@7:7,0 0@5:-9,3 0>50", "5:0,-1,20,23,1 5:0,7,5,10,2 5:3,-9,5,8,1", 0)
	mustStream(t, "from s group a hop 4 2 get count as n", list, "0@9:1,0 0@2:2,0 0@0:1,0 0>4 0@5:1,1 0>10", "3:1,0,4,1 3:2,0,4,1 5:1,2,6,1 5:1,4,8,1 5:1,6,10,1 5:2,2,6,1", 0)
	mustStream(t, "from s group a get count as n", list, "0@9:10,0 0@2:9,0 0@0:-1,0 0@5:-10,0 0>end", "4:-10,1 4:-1,1 4:9,1 4:10,1", 0)
	// 300 groups, all told at one coming, in order of their numbers.
	r := rand.New(rand.NewSource(192))
	coming, want := []impl.Coming{}, []impl.Out{}
	for _, key := range r.Perm(300) {
		coming = append(coming, impl.Coming{Arrival: impl.Arrival{Time: key * 7 % 1000, Row: []int{key - 150, 1}}, Mark: -1})
	}
	for key := range 300 {
		start := key * 7 % 1000 / 10 * 10
		want = append(want, impl.Out{At: 300, Row: []int{key - 150, start, start + 10, 1}})
	}
	coming = append(coming, impl.Coming{Mark: 1000}, impl.Coming{Mark: impl.MaxTime + 1})
	mustStreamAll(t, "300 groups", asked("from s group a tumble 10 get count as n"), list, coming, want, 0)
}

func TestStreamsTellEachGet(t *testing.T) {
	list, coming := sourcesIn("s a b"), "0@4:1,7 0@11:1,9 0@3:1,-5 0@9:1,7 0@8:2,30 0>8 0@8:1,4 0@7:1,100 0>10 0>20"
	for get, want := range map[string]string{
		"count as n": "8:1,0,10,4 8:2,0,10,1 9:1,10,20,1", "sum b as n": "8:1,0,10,13 8:2,0,10,30 9:1,10,20,9", "least b as n": "8:1,0,10,-5 8:2,0,10,30 9:1,10,20,9", "most b as n": "8:1,0,10,7 8:2,0,10,30 9:1,10,20,9",
		"sum (b * b) as n": "8:1,0,10,139 8:2,0,10,900 9:1,10,20,81", "least (0 - b) as n": "8:1,0,10,-7 8:2,0,10,-30 9:1,10,20,-9", "most 5 as n": "8:1,0,10,5 8:2,0,10,5 9:1,10,20,5",
		"most b as x, count as y, least b as z, sum b as n": "8:1,0,10,7,4,-5,13 8:2,0,10,30,1,30,30 9:1,10,20,9,1,9,9",
	} {
		mustStream(t, "from s group a tumble 10 get "+get, list, coming, want, 1)
	}
	most := "1000000000000000"
	mustStream(t, "from s group a tumble 10 get sum b as n", list, "0@4:1,"+most+" 0>1 0@4:1,1 0>2 0@4:1,-1 0>10", "5:1,0,10,"+most, 0)
	mustStream(t, "from s group a tumble 10 get sum b as n", list, "0@4:1,"+most+" 0>1 0@4:1,1 0>10", "3:1,0,10,0", 0)
}

// Nothing is told twice: each window once, whatever marks come behind it.
func TestStreamsTellNothingTwice(t *testing.T) {
	r := rand.New(rand.NewSource(193))
	windows := 0
	for range 1000 {
		list := sourcesIn("s a b", "t a c")
		q := asked(pick(r, "from s group a tumble 7 get count as n", "from s group a hop 9 2 get count as n", "from s group a session 4 get count as n", "from s join t within 9 on a group a session 3 get count as n", "from s join t within 9 on a group a,b hop 6 3 get count as n"))
		coming := []impl.Coming{}
		for now := range 100 {
			for place := range list {
				coming = append(coming, impl.Coming{Source: place, Mark: max(0, now-r.Intn(9))})
				if r.Intn(2) == 0 {
					coming[len(coming)-1] = impl.Coming{Source: place, Arrival: impl.Arrival{Time: max(0, now-r.Intn(9)), Row: []int{r.Intn(2), r.Intn(2)}}, Mark: -1}
				}
			}
		}
		outs, late, ok := impl.RunStream(q, list, append(coming, comes("0>end 1>end 0>3 0>end")...))
		told := map[string]int{}
		for i, out := range outs {
			key := fmt.Sprint(out.Row[:len(out.Row)-1])
			told[key]++
			if told[key] > 1 {
				t.Fatalf("told twice: %v: %v", key, outs)
			}
			if i > 0 && (outs[i-1].At > out.At || outs[i-1].At == out.At && slices.Compare(outs[i-1].Row, out.Row) >= 0) {
				t.Fatalf("not in order: %v %v", outs[i-1], out)
			}
		}
		if windows += len(outs); !ok || late == 0 {
			t.Fatal("not to be tried:", late, ok)
		}
	}
	if windows < 20000 {
		t.Error("the windows are too few:", windows)
	}
}
