package tests

import (
	"fmt"
	"math"
	"math/big"
	"math/rand"
	"slices"
	"strings"
	"testing"

	"loop.example/g00035/impl"
)

const mostNumber = 1000000000000000

func truthAsTold(so bool) *big.Int {
	return big.NewInt(map[bool]int64{true: 1}[so])
}

// opAsTold is done with numbers of any size.
func opAsTold(op int, left *big.Int, right *big.Int) *big.Int {
	out := new(big.Int)
	switch op {
	case 3:
		out.Add(left, right)
	case 4:
		out.Sub(left, right)
	case 5:
		out.Mul(left, right)
	case 6, 7:
		if right.Sign() == 0 {
			return out
		}
		rest := new(big.Int)
		out.QuoRem(left, right, rest)
		if op == 7 {
			out = rest
		}
	case 8:
		out = truthAsTold(left.Cmp(right) < 0)
	case 9:
		out = truthAsTold(left.Cmp(right) == 0)
	case 10:
		out = truthAsTold(left.Sign() != 0 && right.Sign() != 0)
	case 11:
		out = truthAsTold(left.Sign() != 0 || right.Sign() != 0)
	}
	if out.CmpAbs(big.NewInt(mostNumber)) > 0 {
		return new(big.Int)
	}
	return out
}

func (x tree) number(cols []string, row []int) *big.Int {
	switch x.step.Op {
	case 1:
		return big.NewInt(int64(x.step.Num))
	case 2:
		return big.NewInt(int64(row[slices.Index(cols, x.step.Name)]))
	case 12:
		return truthAsTold(x.below[0].number(cols, row).Sign() == 0)
	}
	return opAsTold(x.step.Op, x.below[0].number(cols, row), x.below[1].number(cols, row))
}

func reckonAsTold(steps []impl.Step, cols []string, row []int) (int, bool) {
	x, ok := expressionAsTold(steps)
	ok = ok && len(cols) == len(row)
	for _, n := range row {
		ok = ok && inBounds(n, -mostNumber, mostNumber)
	}
	for _, s := range steps {
		ok = ok && (s.Op != 2 || slices.Contains(cols, s.Name))
	}
	if !ok {
		return 0, false
	}
	return int(x.number(cols, row).Int64()), true
}

func mustReckon(t *testing.T, steps []impl.Step, cols []string, row []int, want int) {
	t.Helper()
	if n, ok := impl.Reckon(steps, cols, row); n != want || !ok {
		t.Errorf("%s of %v %v: %d, %v, not %d", stepsTextAsTold(steps), cols, row, n, ok, want)
	}
	if n, ok := reckonAsTold(steps, cols, row); n != want || !ok {
		t.Errorf("%s of %v %v, as told: %d, %v", stepsTextAsTold(steps), cols, row, n, ok)
	}
}

func mustNotReckon(t *testing.T, name string, steps []impl.Step, cols []string, row []int) {
	t.Helper()
	if n, ok := impl.Reckon(steps, cols, row); n != 0 || ok {
		t.Errorf("%s, %+v of %v %v: %d, %v", name, steps, cols, row, n, ok)
	}
	if n, ok := reckonAsTold(steps, cols, row); ok {
		t.Errorf("%s, %+v of %v %v, as told: %d", name, steps, cols, row, n)
	}
}

func TestReckon(t *testing.T) {
	cols, row := []string{"a", "b", "c"}, []int{7, 2, -5}
	for steps, want := range map[string]int{
		"a": 7, "b": 2, "c": -5, "0": 0, "12": 12, "1000000000000000": mostNumber,
		"a b +": 9, "a b -": 5, "b a -": -5, "a b *": 14, "a b /": 3, "b a /": 0, "a b %": 1, "b a %": 2,
		"a b <": 0, "b a <": 1, "a a <": 0, "c b <": 1, "a a =": 1, "a b =": 0, "a 7 =": 1,
		"a b and": 1, "a 0 and": 0, "0 a and": 0, "0 0 and": 0, "a b or": 1, "a 0 or": 1, "0 a or": 1, "0 0 or": 0,
		"a not": 0, "0 not": 1, "c not": 0, "a not not": 1, "0 not not": 0,
		"c c and": 1, "c 0 or": 1, "0 c or": 1, "1 not": 0, "2 not": 0, "c not not": 1,
		"a b - c -": 10, "a b c - -": 0, "a b c * +": -3, "a b + c *": -45, "100 a / b /": 7, "100 a b / /": 33,
		"a b < not c 0 < and": 1, "a a b c + + =": 0, "1 2 3 4 5 + + + +": 15, "a b c a b c + - * / %": 0,
	} {
		mustReckon(t, stepsIn(steps), cols, row, want)
	}
	mustReckon(t, stepsIn("1 2 +"), nil, nil, 3)
	mustReckon(t, stepsIn("1 2 +"), []string{}, []int{}, 3)
	mustReckon(t, nots(60), []string{"a"}, []int{7}, 0)
	mustReckon(t, nots(59), []string{"a"}, []int{7}, 1)
	mustReckon(t, sums(59), cols, row, 7+29*2)
	mustReckon(t, stepsIn(strings.Repeat("a ", 30)+strings.Repeat("- ", 29)), cols, row, 0)
	mustReckon(t, stepsIn("a"+strings.Repeat(" a -", 29)), cols, row, 7-29*7)
}

// Each operator of numbers of every sort, alone and behind another one.
func TestReckonEachOpOfEachPair(t *testing.T) {
	list := []int{0, 1, -1, 2, -2, 3, -3, 7, -7, 10, -10, 31622776, -31622776, 31622777, -31622777, 1000000, 1000000000, -1000000000, 1000000001, 499999999999999, 500000000000000, 500000000000001, -500000000000000, -500000000000001, 999999999999999, -999999999999999, mostNumber, -mostNumber}
	for _, left := range list {
		for _, right := range list {
			for op := 3; op <= 11; op++ {
				steps := []impl.Step{{Op: 2, Name: "a"}, {Op: 2, Name: "b"}, {Op: op}}
				want := int(opAsTold(op, big.NewInt(int64(left)), big.NewInt(int64(right))).Int64())
				mustReckon(t, steps, []string{"a", "b"}, []int{left, right}, want)
				mustReckon(t, append(steps, impl.Step{Op: 12}), []string{"a", "b"}, []int{left, right}, map[bool]int{true: 1}[want == 0])
				if left >= 0 && right >= 0 {
					mustReckon(t, []impl.Step{{Op: 1, Num: left}, {Op: 1, Num: right}, {Op: op}}, nil, nil, want)
				}
			}
		}
	}
}

func TestReckonDivides(t *testing.T) {
	for _, x := range []struct{ left, right, quotient, rest int }{
		{7, 2, 3, 1}, {-7, 2, -3, -1}, {7, -2, -3, 1}, {-7, -2, 3, -1}, {6, 3, 2, 0}, {-6, 3, -2, 0}, {1, 2, 0, 1}, {-1, 2, 0, -1}, {1, -2, 0, 1}, {-1, -2, 0, -1}, {0, 5, 0, 0}, {0, -5, 0, 0},
		{7, 0, 0, 0}, {-7, 0, 0, 0}, {0, 0, 0, 0}, {mostNumber, 0, 0, 0}, {-mostNumber, 0, 0, 0},
		{mostNumber, -1, -mostNumber, 0}, {-mostNumber, -1, mostNumber, 0}, {mostNumber, mostNumber, 1, 0}, {-mostNumber, mostNumber, -1, 0}, {mostNumber - 1, mostNumber, 0, mostNumber - 1}, {1 - mostNumber, -mostNumber, 0, 1 - mostNumber},
	} {
		mustReckon(t, stepsIn("l r /"), []string{"l", "r"}, []int{x.left, x.right}, x.quotient)
		mustReckon(t, stepsIn("l r %"), []string{"l", "r"}, []int{x.left, x.right}, x.rest)
		mustReckon(t, stepsIn("l r / r * l r % + l ="), []string{"l", "r"}, []int{x.left, x.right}, map[bool]int{true: 1}[x.right != 0 || x.left == 0])
	}
}

func TestReckonWhatLeavesTheNumbers(t *testing.T) {
	at := []string{"l", "r"}
	for _, sign := range []int{1, -1} {
		mustReckon(t, stepsIn("l r +"), at, []int{sign * (mostNumber - 1), sign}, sign*mostNumber)
		mustReckon(t, stepsIn("l r +"), at, []int{sign * mostNumber, 0}, sign*mostNumber)
		mustReckon(t, stepsIn("l r +"), at, []int{sign * mostNumber, sign}, 0)
		mustReckon(t, stepsIn("l r +"), at, []int{sign * mostNumber, sign * mostNumber}, 0)
		mustReckon(t, stepsIn("l r -"), at, []int{sign * (mostNumber - 1), -sign}, sign*mostNumber)
		mustReckon(t, stepsIn("l r -"), at, []int{0, sign * mostNumber}, -sign*mostNumber)
		mustReckon(t, stepsIn("l r -"), at, []int{sign * mostNumber, -sign}, 0)
		mustReckon(t, stepsIn("l r -"), at, []int{sign * mostNumber, -sign * mostNumber}, 0)
		mustReckon(t, stepsIn("l r *"), at, []int{sign * 31622776, 31622776}, sign*31622776*31622776)
		mustReckon(t, stepsIn("l r *"), at, []int{sign * 31622777, 31622777}, 0)
		mustReckon(t, stepsIn("l r *"), at, []int{sign * mostNumber, 1}, sign*mostNumber)
		mustReckon(t, stepsIn("l r *"), at, []int{sign * mostNumber, -1}, -sign*mostNumber)
		mustReckon(t, stepsIn("l r *"), at, []int{sign * 500000000000000, 2}, sign*mostNumber)
		mustReckon(t, stepsIn("l r *"), at, []int{sign * 500000000000001, 2}, 0)
		mustReckon(t, stepsIn("l r *"), at, []int{2, sign * 500000000000001}, 0)
		mustReckon(t, stepsIn("l r *"), at, []int{sign * 333333333333333, 3}, sign*999999999999999)
		mustReckon(t, stepsIn("l r *"), at, []int{sign * 333333333333334, -3}, 0)
		mustReckon(t, stepsIn("l r *"), at, []int{sign * mostNumber, 2}, 0)
		mustReckon(t, stepsIn("l r *"), at, []int{2, sign * mostNumber}, 0)
		mustReckon(t, stepsIn("l r *"), at, []int{sign * mostNumber, 0}, 0)
		mustReckon(t, stepsIn("l r *"), at, []int{0, sign * mostNumber}, 0)
		mustReckon(t, stepsIn("l r *"), at, []int{sign * mostNumber, mostNumber}, 0)
		mustReckon(t, stepsIn("l r *"), at, []int{sign * mostNumber, -mostNumber}, 0)
		// Beyond 64 bits: wrapped around there, the last two would be 2^32 and 1.
		mustReckon(t, stepsIn("l r *"), at, []int{sign * 4294967296, 4294967296}, 0)
		mustReckon(t, stepsIn("l r *"), at, []int{sign * 281474976710656, 65536 * 3}, 0)
		mustReckon(t, stepsIn("l r *"), at, []int{sign * 4294967297, 4294967296}, 0)
		mustReckon(t, stepsIn("l r *"), at, []int{sign * 274177, 67280421310721}, 0)
	}
	// What has left goes on as 0.
	mustReckon(t, stepsIn("l l + 7 +"), []string{"l"}, []int{mostNumber}, 7)
	mustReckon(t, stepsIn("l l + l -"), []string{"l"}, []int{mostNumber}, -mostNumber)
	mustReckon(t, stepsIn("l l * not"), []string{"l"}, []int{mostNumber}, 1)
	mustReckon(t, stepsIn("1000000000000000 2 * 3 or"), nil, nil, 1)
	mustReckon(t, stepsIn("5 l l * /"), []string{"l"}, []int{-mostNumber}, 0)
}

func TestReckonTruth(t *testing.T) {
	for _, left := range []int{0, 1, 2, -1, -7, mostNumber, -mostNumber} {
		for _, right := range []int{0, 1, 2, -1, -7, mostNumber, -mostNumber} {
			cols, row := []string{"l", "r"}, []int{left, right}
			truth := func(so bool) int { return map[bool]int{true: 1}[so] }
			mustReckon(t, stepsIn("l r and"), cols, row, truth(left != 0 && right != 0))
			mustReckon(t, stepsIn("l r or"), cols, row, truth(left != 0 || right != 0))
			mustReckon(t, stepsIn("l not"), cols, row, truth(left == 0))
			mustReckon(t, stepsIn("l not r and"), cols, row, truth(left == 0 && right != 0))
			mustReckon(t, stepsIn("l r not or"), cols, row, truth(left != 0 || right == 0))
			mustReckon(t, stepsIn("l r <"), cols, row, truth(left < right))
			mustReckon(t, stepsIn("l r ="), cols, row, truth(left == right))
		}
	}
}

func TestReckonOfColumns(t *testing.T) {
	mustReckon(t, stepsIn("a"), []string{"b", "a"}, []int{1, 2}, 2)
	mustReckon(t, stepsIn("a"), []string{"a", "a"}, []int{1, 2}, 1)
	mustReckon(t, stepsIn("a b +"), []string{"b", "a", "b", "a"}, []int{1, 20, 300, 4000}, 21)
	mustReckon(t, stepsIn("a"), []string{"", "a b", "A", "a", "from"}, []int{1, 2, 3, 4, 5}, 4)
	mustReckon(t, stepsIn("from"), []string{"a", "from"}, []int{1, 2}, 2)
	long := colNames(40)
	for i, col := range long {
		mustReckon(t, stepsIn(col), long, numbersFrom(100, 139), 100+i)
	}
	for name, cols := range map[string][]string{"no columns": nil, "another": {"b"}, "another letter": {"A"}, "a beginning": {"aa"}, "empty": {""}} {
		mustNotReckon(t, name, stepsIn("a"), cols, make([]int, len(cols)))
		mustNotReckon(t, name, stepsIn("1 a +"), cols, make([]int, len(cols)))
		mustNotReckon(t, name, stepsIn("0 a and"), cols, make([]int, len(cols)))
		mustNotReckon(t, name, stepsIn("1 a or not"), cols, make([]int, len(cols)))
	}
	mustNotReckon(t, "one of two", stepsIn("a b +"), []string{"a"}, []int{1})
	for _, x := range []struct{ cols, row int }{{0, 1}, {1, 0}, {1, 2}, {2, 1}, {3, 2}, {12, 13}} {
		for _, steps := range []string{"1", "c0", "c0 not", "1 2 +"} {
			mustNotReckon(t, "other lengths", stepsIn(steps), colNames(x.cols), make([]int, x.row))
		}
	}
}

func TestReckonOfRows(t *testing.T) {
	cols := []string{"a", "b", "c"}
	for _, n := range []int{math.MinInt, -mostNumber - 1, mostNumber + 1, math.MaxInt, -2 * mostNumber, 2 * mostNumber} {
		for at := range 3 {
			row := []int{1, 2, 3}
			row[at] = n
			for _, steps := range []string{"a", "b", "c", "1", "a b + c +", "a not"} {
				mustNotReckon(t, fmt.Sprint("a number at ", at), stepsIn(steps), cols, row)
			}
		}
		mustNotReckon(t, "of a name twice", stepsIn("a"), []string{"a", "a"}, []int{1, n})
	}
	for _, n := range []int{-mostNumber, 1 - mostNumber, 0, mostNumber - 1, mostNumber} {
		mustReckon(t, stepsIn("b"), cols, []int{mostNumber, n, -mostNumber}, n)
		mustReckon(t, stepsIn("1"), cols, []int{n, n, n}, 1)
	}
}

func TestReckonOfStepsThatAreNoExpression(t *testing.T) {
	cols, row := []string{"a", "b"}, []int{7, 2}
	for _, steps := range []string{"", "not", "+", "a +", "a b", "a b c", "+ a b", "a + b", "a b + +", "a b not", "not a", "1 2", "a b + 1"} {
		mustNotReckon(t, "no expression", stepsIn(steps), cols, row)
	}
	mustNotReckon(t, "too many steps", nots(61), cols, row)
	mustNotReckon(t, "too many steps", sums(61), cols, row)
	for _, s := range []impl.Step{{}, {Op: -1}, {Op: 13}, {Op: 1, Num: -1}, {Op: 1, Num: mostNumber + 1}, {Op: 1, Name: "a"}, {Op: 2}, {Op: 2, Name: "a", Num: 1}, {Op: 3, Num: 1}, {Op: 3, Name: "a"}} {
		mustNotReckon(t, "no step", []impl.Step{s}, cols, row)
		mustNotReckon(t, "no step behind two", append(stepsIn("a b"), s), cols, row)
		mustNotReckon(t, "no step among others", append([]impl.Step{s}, stepsIn("a +")...), cols, row)
	}
}

// randomNumber is near where something happens, or anywhere.
func randomNumber(r *rand.Rand) int {
	return pick(r, 0, 1, -1, 2, -3, 7, 31622776, -31622777, 1000000000, mostNumber, -mostNumber, mostNumber-1, r.Intn(20)-10, r.Intn(2*mostNumber)-mostNumber)
}

// randomRowFor has a number for each column of some steps, and others.
func randomRowFor(r *rand.Rand, steps []impl.Step) ([]string, []int) {
	cols, row := []string{}, []int{}
	for _, s := range steps {
		if s.Op == 2 {
			cols = append(cols, s.Name)
		}
	}
	cols = append(cols, randomCols(r, r.Intn(4))...)
	r.Shuffle(len(cols), func(i, j int) { cols[i], cols[j] = cols[j], cols[i] })
	for range cols {
		row = append(row, randomNumber(r))
	}
	return cols, row
}

func TestReckonIsAsTold(t *testing.T) {
	r := rand.New(rand.NewSource(174))
	right, wrong, other := 0, 0, 0
	for range 40000 {
		steps := randomSteps(r, pick(r, 1, 3, 7, 20, 60))
		cols, row := randomRowFor(r, steps)
		switch r.Intn(12) {
		case 0:
			steps = spoilSteps(r, steps)
		case 1:
			row = append(row, pick(r, 0, mostNumber+1))
		case 2:
			cols, row = append(cols, "more"), append(row, pick(r, mostNumber+1, -mostNumber-1, mostNumber))
		case 3:
			cols, row = cols[len(cols)/2:], row[len(cols)/2:]
		}
		want, ok := reckonAsTold(steps, cols, row)
		if !ok {
			wrong++
			mustNotReckon(t, "at random", steps, cols, row)
		} else {
			right++
			mustReckon(t, steps, cols, row, want)
		}
		if !inBounds(want, -1, 1) {
			other++
		}
		if t.Failed() {
			return
		}
	}
	if right < 10000 || wrong < 2000 || other < 5000 {
		t.Error("the expressions are too much alike:", right, wrong, other)
	}
}

// P25: an expression of two halves comes to what the halves come to, put together, and with a not behind it to the opposite truth.
func TestExpressionsOfTwoHalves(t *testing.T) {
	r := rand.New(rand.NewSource(175))
	for range 20000 {
		left, right, op := randomSteps(r, 1+r.Intn(29)), randomSteps(r, 1+r.Intn(29)), 3+r.Intn(9)
		whole := slices.Concat(left, right, []impl.Step{{Op: op}})
		cols, row := randomRowFor(r, whole)
		a, okA := impl.Reckon(left, cols, row)
		b, okB := impl.Reckon(right, cols, row)
		n, ok := impl.Reckon(whole, cols, row)
		if want := opAsTold(op, big.NewInt(int64(a)), big.NewInt(int64(b))); !ok || !okA || !okB || want.Cmp(big.NewInt(int64(n))) != 0 {
			t.Fatalf("%s of %v %v: %d, %v, but its halves come to %d, %v and %d, %v", stepsTextAsTold(whole), cols, row, n, ok, a, okA, b, okB)
		}
		// The halves as numbers of their own come to the same.
		again, ok := impl.Reckon([]impl.Step{{Op: 2, Name: "l"}, {Op: 2, Name: "r"}, {Op: op}}, []string{"l", "r"}, []int{a, b})
		if !ok || again != n {
			t.Fatalf("%d %s %d: %d, %v, not %d", a, opsAsTold[op], b, again, ok, n)
		}
		opposite, ok := impl.Reckon(append(whole, impl.Step{Op: 12}), cols, row)
		if !ok || opposite != map[bool]int{true: 1}[n == 0] {
			t.Fatalf("not %s of %v %v: %d, %v", stepsTextAsTold(whole), cols, row, opposite, ok)
		}
		// What is told and read comes to the same too.
		q, read := impl.ParseQuery("from s get " + stepsTextAsTold(whole) + " as x")
		if !read {
			continue
		}
		if same, ok := impl.Reckon(q.Gets[0].Steps, cols, row); !ok || same != n {
			t.Fatalf("%s: %d, %v, not %d", impl.ShowQuery(q), same, ok, n)
		}
	}
}
