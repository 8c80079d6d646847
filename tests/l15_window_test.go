package tests

import (
	"cmp"
	"fmt"
	"math"
	"math/rand"
	"slices"
	"strings"
	"testing"

	"loop.example/g00035/impl"
)

// windowing is a query of that window, of which nothing else matters.
func windowing(window string) impl.Query {
	return asked(strings.Join(strings.Fields("from s group a "+window+" get count as n"), " "))
}

// windowsIn reads windows: a start, a hyphen, an end.
func windowsIn(text string) [][]int {
	list := [][]int{}
	for _, word := range strings.Fields(text) {
		list = append(list, numbersIn(strings.ReplaceAll(word, "-", ",")))
	}
	return list
}

func sameRows(a [][]int, b [][]int) bool {
	return slices.EqualFunc(a, b, slices.Equal)
}

func windowsOkAsTold(q impl.Query, times []int) bool {
	ok := queryOkAsTold(q) && len(q.Groups) > 0 && len(times) <= 3000
	for _, time := range times {
		ok = ok && inBounds(time, 0, 1000000000000)
	}
	return ok
}

// sessionAsTold is the one of a time: it reaches as far as no time is missing.
func sessionAsTold(size int, times []int, time int) []int {
	start, end := time, time
	for changed := true; changed; {
		changed = false
		for _, other := range times {
			if other < start && start-other <= size {
				start, changed = other, true
			}
			if other > end && other-end <= size {
				end, changed = other, true
			}
		}
	}
	return []int{start, end + size + 1}
}

func windowsAsTold(q impl.Query, times []int) [][]int {
	if !windowsOkAsTold(q, times) {
		return nil
	}
	windows := [][]int{}
	for _, time := range times {
		switch q.Window {
		case 0:
			windows = append(windows, []int{0, 1000000000001})
		case 1:
			windows = append(windows, []int{time / q.Size * q.Size, time/q.Size*q.Size + q.Size})
		case 2:
			for k := max(0, time/q.Every-25); k <= time/q.Every+1; k++ {
				if start := k * q.Every; start <= time && time < start+q.Size {
					windows = append(windows, []int{start, start + q.Size})
				}
			}
		case 3:
			windows = append(windows, sessionAsTold(q.Size, times, time))
		}
	}
	slices.SortFunc(windows, func(a, b []int) int { return cmp.Or(cmp.Compare(a[0], b[0]), cmp.Compare(a[1], b[1])) })
	return slices.CompactFunc(windows, slices.Equal)
}

func mustHaveWindows(t *testing.T, name string, q impl.Query, times []int, want [][]int) {
	t.Helper()
	if got := impl.Windows(q, times); !sameRows(got, want) {
		t.Errorf("%s, %d %d %d of %v: %v, not %v", name, q.Window, q.Size, q.Every, times, got, want)
	}
	if got := windowsAsTold(q, times); !sameRows(got, want) {
		t.Errorf("%s, as told: %v, not %v", name, got, want)
	}
}

// mustWindow has the times in any order.
func mustWindow(t *testing.T, window string, times string, want string) {
	t.Helper()
	list := numbersIn(times)
	mustHaveWindows(t, window, windowing(window), list, windowsIn(want))
	r := rand.New(rand.NewSource(int64(len(list))))
	for range 3 {
		r.Shuffle(len(list), func(i, j int) { list[i], list[j] = list[j], list[i] })
		mustHaveWindows(t, window+", shuffled", windowing(window), list, windowsIn(want))
	}
}

func TestWindowsOfNoTimes(t *testing.T) {
	for _, window := range []string{"", "tumble 10", "hop 10 4", "session 9"} {
		mustWindow(t, window, "", "")
		mustHaveWindows(t, "nil", windowing(window), nil, nil)
	}
}

func TestWindowsOfNone(t *testing.T) {
	mustWindow(t, "", "0", "0-1000000000001")
	mustWindow(t, "", "1000000000000", "0-1000000000001")
	mustWindow(t, "", "7,7,3,1000000000000,0", "0-1000000000001")
}

func TestWindowsThatTumble(t *testing.T) {
	mustWindow(t, "tumble 10", "0", "0-10")
	mustWindow(t, "tumble 10", "9", "0-10")
	mustWindow(t, "tumble 10", "10", "10-20")
	mustWindow(t, "tumble 10", "0,9", "0-10")
	mustWindow(t, "tumble 10", "9,10", "0-10 10-20")
	mustWindow(t, "tumble 10", "25,3,5,3,29,30", "0-10 20-30 30-40")
	mustWindow(t, "tumble 1", "0,1,5,5", "0-1 1-2 5-6")
	mustWindow(t, "tumble 7", "6,7,13,14,20,21", "0-7 7-14 14-21 21-28")
	mustWindow(t, "tumble 1000000000000", "0,999999999999", "0-1000000000000")
	mustWindow(t, "tumble 1000000000000", "999999999999,1000000000000", "0-1000000000000 1000000000000-2000000000000")
	mustWindow(t, "tumble 999999999999", "999999999998,999999999999,1000000000000", "0-999999999999 999999999999-1999999999998")
	mustWindow(t, "tumble 3", "1000000000000", "999999999999-1000000000002")
}

func TestWindowsThatHop(t *testing.T) {
	mustWindow(t, "hop 10 4", "9,2", "0-10 4-14 8-18")
	mustWindow(t, "hop 10 5", "0", "0-10")
	mustWindow(t, "hop 10 5", "4", "0-10")
	mustWindow(t, "hop 10 5", "5", "0-10 5-15")
	mustWindow(t, "hop 10 5", "9", "0-10 5-15")
	mustWindow(t, "hop 10 5", "10", "5-15 10-20")
	mustWindow(t, "hop 10 5", "10,0,10", "0-10 5-15 10-20")
	mustWindow(t, "hop 10 5", "0,30", "0-10 25-35 30-40")
	// Those that would begin below 0 are left out.
	mustWindow(t, "hop 10 1", "3", "0-10 1-11 2-12 3-13")
	mustWindow(t, "hop 10 1", "0", "0-10")
	mustWindow(t, "hop 20 1", "19", "0-20 1-21 2-22 3-23 4-24 5-25 6-26 7-27 8-28 9-29 10-30 11-31 12-32 13-33 14-34 15-35 16-36 17-37 18-38 19-39")
	mustWindow(t, "hop 20 1", "100", "81-101 82-102 83-103 84-104 85-105 86-106 87-107 88-108 89-109 90-110 91-111 92-112 93-113 94-114 95-115 96-116 97-117 98-118 99-119 100-120")
	mustWindow(t, "hop 10 10", "0,9,10,25", "0-10 10-20 20-30")
	mustWindow(t, "hop 1 1", "0,7,8", "0-1 7-8 8-9")
	// Sizes that are no multiple of Every: a time lies in one more or one fewer.
	mustWindow(t, "hop 10 4", "12", "4-14 8-18 12-22")
	mustWindow(t, "hop 10 4", "13", "4-14 8-18 12-22")
	mustWindow(t, "hop 10 4", "14", "8-18 12-22")
	mustWindow(t, "hop 10 4", "15", "8-18 12-22")
	mustWindow(t, "hop 10 7", "13", "7-17")
	mustWindow(t, "hop 10 7", "14", "7-17 14-24")
	mustWindow(t, "hop 10 7", "17", "14-24")
	mustWindow(t, "hop 10 9", "8,9,10", "0-10 9-19")
	mustWindow(t, "hop 1000000000000 1000000000000", "0,1000000000000", "0-1000000000000 1000000000000-2000000000000")
	mustWindow(t, "hop 1000000000000 500000000000", "1000000000000,499999999999", "0-1000000000000 500000000000-1500000000000 1000000000000-2000000000000")
	mustWindow(t, "hop 3 2", "1000000000000", "999999999998-1000000000001 1000000000000-1000000000003")
	every := windowsIn("")
	for start := 0; start <= impl.MaxTime; start += 50000000000 {
		every = append(every, []int{start, start + impl.MaxTime})
	}
	mustHaveWindows(t, "as many as can be", windowing("hop 1000000000000 50000000000"), []int{impl.MaxTime}, every[1:])
	mustHaveWindows(t, "the first one too", windowing("hop 1000000000000 50000000000"), []int{impl.MaxTime, impl.MaxTime - 1}, every)
}

func TestWindowsOfSessions(t *testing.T) {
	mustWindow(t, "session 9", "3", "3-13")
	mustWindow(t, "session 9", "3,12", "3-22")
	mustWindow(t, "session 9", "3,13", "3-13 13-23")
	mustWindow(t, "session 9", "3,14", "3-13 14-24")
	mustWindow(t, "session 9", "3,3,3", "3-13")
	mustWindow(t, "session 9", "3,3,12,12,22", "3-22 22-32")
	mustWindow(t, "session 9", "0,9,18,27,36,46", "0-46 46-56")
	mustWindow(t, "session 9", "40,20,11,29", "11-39 40-50")
	mustWindow(t, "session 1", "0,1,2,4,5,7", "0-4 4-7 7-9")
	mustWindow(t, "session 1", "0", "0-2")
	mustWindow(t, "session 5", "1000000000000,999999999995,999999999994,999999999989", "999999999989-1000000000006")
	mustWindow(t, "session 5", "1000000000000,999999999994", "999999999994-1000000000000 1000000000000-1000000000006")
	mustWindow(t, "session 1000000000000", "0,1000000000000", "0-2000000000001")
	mustWindow(t, "session 999999999999", "0,1000000000000", "0-1000000000000 1000000000000-2000000000000")
	mustWindow(t, "session 999999999999", "0,1,1000000000000", "0-2000000000000")
}

func mustHaveNoWindows(t *testing.T, name string, q impl.Query, times []int) {
	t.Helper()
	mustHaveWindows(t, name, q, times, nil)
}

func TestWindowsOfWhatIsNotRight(t *testing.T) {
	times := []int{9, 2}
	mustHaveNoWindows(t, "the zero value", impl.Query{}, times)
	for _, text := range []string{"from s get a as x", "from s where a get a as x", "from s join t within 5 on a get a as x", "from s lookup t on a get a as x"} {
		mustHaveNoWindows(t, "without Groups, "+text, asked(text), times)
		q := asked(text)
		q.Window, q.Size = 1, 10
		mustHaveNoWindows(t, "a Window without Groups, "+text, q, times)
	}
	for _, window := range []string{"", "tumble 10", "hop 10 4", "session 9"} {
		good := windowing(window)
		if len(impl.Windows(good, times)) == 0 {
			t.Error("no windows:", window)
		}
		for name, do := range map[string]func(q *impl.Query){
			"no From": func(q *impl.Query) { q.From = "" }, "a Within alone": func(q *impl.Query) { q.Within = 1 }, "no Gets": func(q *impl.Query) { q.Gets = nil }, "a GetValue": func(q *impl.Query) { q.Gets[0] = getting(0, "a", "n") }, "a Where that is none": func(q *impl.Query) { q.Where = stepsIn("a a") },
			"a group twice": func(q *impl.Query) { q.Groups = []string{"a", "a"} }, "no Window of all": func(q *impl.Query) { q.Window = 4 }, "a Window below": func(q *impl.Query) { q.Window = -1 }, "another Size": func(q *impl.Query) { q.Size = map[bool]int{true: 0, false: 1}[q.Window > 0] }, "a Size below 0": func(q *impl.Query) { q.Size = -10 }, "a Size that is too great": func(q *impl.Query) { q.Size = impl.MaxTime + 1 }, "another Every": func(q *impl.Query) { q.Every = map[bool]int{true: 0, false: 1}[q.Window == 2] }, "an Every that is too great": func(q *impl.Query) { q.Every = 11 }, "an Every below 0": func(q *impl.Query) { q.Every = -1 },
		} {
			q := plainQuery(good)
			do(&q)
			mustHaveNoWindows(t, window+", "+name, q, times)
		}
		for _, time := range []int{math.MinInt, -impl.MaxTime, -1, impl.MaxTime + 1, math.MaxInt} {
			for at := range 3 {
				mustHaveNoWindows(t, fmt.Sprint("a time ", time), good, slices.Insert([]int{9, 2}, at, time))
			}
			mustHaveNoWindows(t, fmt.Sprint("a time alone ", time), good, []int{time})
		}
	}
	q := windowing("hop 20 1")
	q.Size = 21
	mustHaveNoWindows(t, "Size more than 20 times Every", q, times)
}

func TestWindowsUpToMaxJoined(t *testing.T) {
	for _, window := range []string{"", "tumble 10", "hop 10 4", "session 9"} {
		for _, step := range []int{0, 1, 7, 100, impl.MaxTime / 3000} {
			times := []int{}
			for i := range 3000 {
				times = append(times, (i*7%3000)*step)
			}
			got := impl.Windows(windowing(window), times)
			if len(got) == 0 || !inBounds(impl.MaxTime, times[0], impl.MaxTime) {
				t.Error("no windows of the most times:", window, step)
			}
			for _, more := range []int{0, 5, impl.MaxTime} {
				mustHaveNoWindows(t, "one time more", windowing(window), append(slices.Clone(times), more))
			}
			mustHaveNoWindows(t, "many times more", windowing(window), append(slices.Clone(times), times...))
		}
	}
	mustWindow(t, "", strings.TrimSuffix(strings.Repeat("5,", 3000), ","), "0-1000000000001")
	mustWindow(t, "session 1", strings.TrimSuffix(strings.Repeat("5,", 3000), ","), "5-7")
}

func randomTimes(r *rand.Rand, size int) []int {
	times, span := []int{}, pick(r, 5, 50, 20*min(size, impl.MaxTime/20)+1, impl.MaxTime+1)
	for range pick(r, 0, 1, 2, 5, 20, 40) {
		times = append(times, r.Intn(span))
		if r.Intn(8) == 0 {
			times = append(times, pick(r, 0, impl.MaxTime, impl.MaxTime-1, times[0], min(impl.MaxTime, times[0]+size), min(impl.MaxTime, times[0]+size+1), max(0, times[0]-size)))
		}
	}
	return times
}

// holding are the windows in which a time lies.
func holding(windows [][]int, time int) [][]int {
	return slices.DeleteFunc(slices.Clone(windows), func(w []int) bool { return time < w[0] || time >= w[1] })
}

// mustLieIn: of a tumble and of a session each time lies in one window, of a hop in all that begin at 0 or later.
func mustLieIn(t *testing.T, q impl.Query, windows [][]int, time int) {
	t.Helper()
	in := holding(windows, time)
	if q.Window != 2 {
		if len(in) != 1 {
			t.Fatalf("%d lies in %v of %d %d", time, in, q.Window, q.Size)
		}
		return
	}
	first := max(0, time-q.Size+1)
	first += (q.Every - first%q.Every) % q.Every
	for start := first; start <= time; start += q.Every {
		if len(in) == 0 || in[0][0] != start || in[0][1] != start+q.Size {
			t.Fatalf("%d lies in %v of a hop %d %d, but not in that from %d", time, in, q.Size, q.Every, start)
		}
		in = in[1:]
	}
	if len(in) > 0 {
		t.Fatalf("%d lies in windows of a hop %d %d that are none: %v", time, q.Size, q.Every, in)
	}
}

// P26: each time lies in a window, windows stand in order, and in each there lies a time.
func TestEachTimeLiesInAWindow(t *testing.T) {
	r := rand.New(rand.NewSource(183))
	many := 0
	for range 20000 {
		q := grouping()
		q.Window = r.Intn(4)
		if q.Window > 0 {
			q.Size = pick(r, 1, 2, 7, 10, 100, 1+r.Intn(1000), impl.MaxTime, impl.MaxTime-r.Intn(100))
		}
		if q.Window == 2 {
			q.Every = pick(r, q.Size, (q.Size+19)/20, (q.Size+1)/2, (q.Size+19)/20+r.Intn(q.Size-(q.Size+19)/20+1))
		}
		times := randomTimes(r, q.Size)
		windows := impl.Windows(q, times)
		mustHaveWindows(t, "at random", q, times, windowsAsTold(q, times))
		for i, w := range windows {
			if len(w) != 2 || w[0] >= w[1] || w[0] < 0 {
				t.Fatal("no window:", w)
			}
			if i > 0 && windows[i-1][0] >= w[0] || i > 0 && windows[i-1][1] >= w[1] {
				t.Fatal("not in order:", windows)
			}
			if !slices.ContainsFunc(times, func(time int) bool { return w[0] <= time && time < w[1] }) {
				t.Fatal("no time lies in", w, times)
			}
		}
		for _, time := range times {
			mustLieIn(t, q, windows, time)
		}
		if len(windows) > 3 {
			many++
		}
	}
	if many < 3000 {
		t.Error("the windows are too few:", many)
	}
}
