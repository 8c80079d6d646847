package tests

import (
	"math"
	"math/big"
	"math/rand"
	"testing"

	"loop.example/g00035/impl"
)

const leastLevelTold = -1000000000000

func bucketOkAsTold(b impl.Bucket) bool {
	return inBounds(b.Rate, 1, 1000000) && inBounds(b.Burst, 0, 1000000) && inBounds(b.Level, leastLevelTold, b.Burst) && inBounds(b.Time, 0, 1000000000000)
}

// chargeAsTold reckons with numbers that have no end.
func chargeAsTold(b impl.Bucket, now int, units int) (impl.Bucket, int, bool) {
	if !bucketOkAsTold(b) || !inBounds(now, b.Time, 1000000000000) || !inBounds(units, 0, 1000000) {
		return impl.Bucket{}, 0, false
	}
	rate := big.NewInt(int64(b.Rate))
	level := new(big.Int).Mul(rate, big.NewInt(int64(now-b.Time)))
	level.Add(level, big.NewInt(int64(b.Level)))
	if burst := big.NewInt(int64(b.Burst)); level.Cmp(burst) > 0 {
		level = burst
	}
	level.Sub(level, big.NewInt(int64(units)))
	if level.Cmp(big.NewInt(leastLevelTold)) < 0 {
		return impl.Bucket{}, 0, false
	}
	wait := new(big.Int)
	if level.Sign() < 0 {
		rest := new(big.Int)
		wait.QuoRem(new(big.Int).Neg(level), rate, rest)
		if rest.Sign() > 0 {
			wait.Add(wait, big.NewInt(1))
		}
	}
	b.Level, b.Time = int(level.Int64()), now
	return b, int(wait.Int64()), true
}

// chargeStepByStep lets each time go by on its own; it is for short spans only.
func chargeStepByStep(b impl.Bucket, now int, units int) (impl.Bucket, int) {
	grow := func(x impl.Bucket) impl.Bucket {
		x.Time++
		for range x.Rate {
			if x.Level < x.Burst {
				x.Level++
			}
		}
		return x
	}
	for b.Time < now {
		b = grow(b)
	}
	b.Level -= units
	wait := 0
	for x := b; x.Level < 0; wait++ {
		x = grow(x)
	}
	return b, wait
}

func mustCharge(t *testing.T, name string, b impl.Bucket, now int, units int, level int, wait int) {
	t.Helper()
	want := impl.Bucket{Rate: b.Rate, Burst: b.Burst, Level: level, Time: now}
	if got, w, ok := impl.Charge(b, now, units); got != want || w != wait || !ok {
		t.Errorf("%s: %+v at %d, %d: %+v %d %v, not %+v %d", name, b, now, units, got, w, ok, want, wait)
	}
	if got, w, ok := chargeAsTold(b, now, units); got != want || w != wait || !ok {
		t.Errorf("%s, as told: %+v at %d, %d: %+v %d %v", name, b, now, units, got, w, ok)
	}
}

func mustNotCharge(t *testing.T, name string, b impl.Bucket, now int, units int) {
	t.Helper()
	if got, wait, ok := impl.Charge(b, now, units); got != (impl.Bucket{}) || wait != 0 || ok {
		t.Errorf("%s: %+v at %d, %d: %+v %d %v", name, b, now, units, got, wait, ok)
	}
	if _, _, ok := chargeAsTold(b, now, units); ok {
		t.Errorf("%s, as told: it is done", name)
	}
}

func TestCharge(t *testing.T) {
	b := impl.Bucket{Rate: 3, Burst: 10, Level: 4, Time: 5}
	mustCharge(t, "nothing used", b, 5, 0, 4, 0)
	mustCharge(t, "some of what is free", b, 5, 3, 1, 0)
	mustCharge(t, "all that is free", b, 5, 4, 0, 0)
	mustCharge(t, "one more", b, 5, 5, -1, 1)
	mustCharge(t, "a time later", b, 6, 0, 7, 0)
	mustCharge(t, "a time later, all of it", b, 6, 7, 0, 0)
	mustCharge(t, "two later: not beyond Burst", b, 7, 0, 10, 0)
	mustCharge(t, "two later, some used", b, 7, 1, 9, 0)
	mustCharge(t, "two later, Burst used", b, 7, 10, 0, 0)
	mustCharge(t, "two later, more than Burst", b, 7, 11, -1, 1)
	mustCharge(t, "much later", b, 500, 12, -2, 1)
	mustCharge(t, "much more than is free", b, 6, 20, -13, 5)
}

func TestChargeUpToBurst(t *testing.T) {
	mustCharge(t, "just to it", impl.Bucket{Rate: 3, Burst: 10, Level: 4}, 2, 0, 10, 0)
	mustCharge(t, "one short of it", impl.Bucket{Rate: 3, Burst: 10, Level: 3}, 2, 0, 9, 0)
	mustCharge(t, "one beyond it", impl.Bucket{Rate: 3, Burst: 10, Level: 5}, 2, 0, 10, 0)
	mustCharge(t, "full", impl.Bucket{Rate: 3, Burst: 10, Level: 10}, 0, 0, 10, 0)
	mustCharge(t, "full, later", impl.Bucket{Rate: 3, Burst: 10, Level: 10}, 9, 0, 10, 0)
	mustCharge(t, "full, later, used", impl.Bucket{Rate: 3, Burst: 10, Level: 10}, 9, 4, 6, 0)
	mustCharge(t, "no Burst", impl.Bucket{Rate: 3}, 9, 0, 0, 0)
	mustCharge(t, "no Burst, one used", impl.Bucket{Rate: 3}, 9, 1, -1, 1)
	mustCharge(t, "no Burst, from below", impl.Bucket{Rate: 3, Level: -7}, 3, 0, 0, 0)
	mustCharge(t, "no Burst, not so far", impl.Bucket{Rate: 3, Level: -7}, 2, 0, -1, 1)
	mustCharge(t, "a Rate above Burst", impl.Bucket{Rate: 50, Burst: 10, Level: -20}, 1, 0, 10, 0)
	mustCharge(t, "a Rate above Burst, used", impl.Bucket{Rate: 50, Burst: 10, Level: -20}, 1, 70, -60, 2)
}

func TestChargeFromBelow(t *testing.T) {
	b := impl.Bucket{Rate: 4, Burst: 100, Level: -12, Time: 10}
	mustCharge(t, "not grown", b, 10, 0, -12, 3)
	mustCharge(t, "not so far", b, 12, 0, -4, 1)
	mustCharge(t, "to 0", b, 13, 0, 0, 0)
	mustCharge(t, "above it", b, 14, 0, 4, 0)
	mustCharge(t, "to 0, and used", b, 13, 1, -1, 1)
	mustCharge(t, "above it, and used", b, 14, 4, 0, 0)
	mustCharge(t, "above it, and more used", b, 14, 5, -1, 1)
	mustCharge(t, "not so far, and used", b, 11, 9, -17, 5)
	mustCharge(t, "all the way", b, 38, 0, 100, 0)
	mustCharge(t, "and beyond", b, 39, 0, 100, 0)
}

func TestHowLongToWait(t *testing.T) {
	for rate := 1; rate <= 12; rate++ {
		for want := 0; want <= 40; want++ {
			wait := 0
			for rate*wait < want {
				wait++
			}
			b := impl.Bucket{Rate: rate, Burst: 5, Level: 0, Time: 7}
			mustCharge(t, "what is wanting", b, 7, want, -want, wait)
			b.Level = -want
			mustCharge(t, "what was wanting", b, 7, 0, -want, wait)
		}
	}
	mustCharge(t, "the greatest Rate", impl.Bucket{Rate: 1000000, Level: -1000000}, 0, 0, -1000000, 1)
	mustCharge(t, "the greatest Rate, one more", impl.Bucket{Rate: 1000000, Level: -1000000}, 0, 1, -1000001, 2)
	mustCharge(t, "the greatest Rate, one", impl.Bucket{Rate: 1000000}, 0, 1, -1, 1)
	mustCharge(t, "the longest", impl.Bucket{Rate: 1, Level: leastLevelTold}, 0, 0, leastLevelTold, 1000000000000)
	mustCharge(t, "the longest but one", impl.Bucket{Rate: 1, Level: leastLevelTold + 1}, 0, 0, leastLevelTold+1, 999999999999)
	mustCharge(t, "half of it", impl.Bucket{Rate: 2, Level: leastLevelTold + 1}, 0, 0, leastLevelTold+1, 500000000000)
	mustCharge(t, "a third of it", impl.Bucket{Rate: 3, Level: leastLevelTold}, 0, 0, leastLevelTold, 333333333334)
	mustCharge(t, "beyond MaxTime", impl.Bucket{Rate: 1, Level: -5, Time: impl.MaxTime}, impl.MaxTime, 0, -5, 5)
}

func TestBoundsOfABucket(t *testing.T) {
	b := impl.Bucket{Rate: 3, Burst: 10, Level: 4, Time: 5}
	of := func(do func(b *impl.Bucket)) impl.Bucket {
		x := b
		do(&x)
		return x
	}
	for _, n := range []int{math.MinInt, -1, 0, 1000001, 1 << 40, math.MaxInt} {
		mustNotCharge(t, "Rate", of(func(b *impl.Bucket) { b.Rate = n }), 6, 0)
	}
	mustCharge(t, "the least Rate", of(func(b *impl.Bucket) { b.Rate = 1 }), 6, 0, 5, 0)
	mustCharge(t, "the greatest Rate", of(func(b *impl.Bucket) { b.Rate = 1000000 }), 6, 0, 10, 0)
	for _, n := range []int{math.MinInt, -1, 1000001, 1 << 40, math.MaxInt} {
		mustNotCharge(t, "Burst", of(func(b *impl.Bucket) { b.Burst, b.Level = n, 0 }), 6, 0)
		mustNotCharge(t, "Burst, and Level alike", of(func(b *impl.Bucket) { b.Burst, b.Level = n, n }), 6, 0)
		mustNotCharge(t, "Burst, and Level below", of(func(b *impl.Bucket) { b.Burst, b.Level = n, -5 }), 6, 0)
	}
	mustCharge(t, "the least Burst", of(func(b *impl.Bucket) { b.Burst, b.Level = 0, 0 }), 6, 0, 0, 0)
	mustCharge(t, "the greatest Burst", of(func(b *impl.Bucket) { b.Burst = 1000000 }), 6, 0, 7, 0)
	mustCharge(t, "the greatest Burst, full", of(func(b *impl.Bucket) { b.Burst, b.Level = 1000000, 1000000 }), 6, 1, 999999, 0)
	for _, n := range []int{math.MinInt, leastLevelTold - 1, 11, 1000000, math.MaxInt} {
		mustNotCharge(t, "Level", of(func(b *impl.Bucket) { b.Level = n }), 6, 0)
		mustNotCharge(t, "Level, at once", of(func(b *impl.Bucket) { b.Level = n }), 5, 0)
	}
	mustCharge(t, "Level of Burst", of(func(b *impl.Bucket) { b.Level = 10 }), 5, 0, 10, 0)
	mustCharge(t, "the least Level", of(func(b *impl.Bucket) { b.Level = leastLevelTold }), 6, 0, leastLevelTold+3, 333333333333)
	for _, n := range []int{math.MinInt, -1, impl.MaxTime + 1, math.MaxInt} {
		mustNotCharge(t, "Time", of(func(b *impl.Bucket) { b.Time = n }), impl.MaxTime, 0)
		mustNotCharge(t, "Time, at once", of(func(b *impl.Bucket) { b.Time = n }), n, 0)
	}
	mustCharge(t, "the first Time", of(func(b *impl.Bucket) { b.Time = 0 }), 0, 0, 4, 0)
	mustCharge(t, "the last Time", of(func(b *impl.Bucket) { b.Time = impl.MaxTime }), impl.MaxTime, 0, 4, 0)
	mustNotCharge(t, "the zero value", impl.Bucket{}, 0, 0)
}

func TestBoundsOfACharge(t *testing.T) {
	b := impl.Bucket{Rate: 3, Burst: 10, Level: 4, Time: 5}
	for _, now := range []int{math.MinInt, -1, 0, 4, impl.MaxTime + 1, math.MaxInt} {
		mustNotCharge(t, "now", b, now, 0)
	}
	mustCharge(t, "now the same as Time", b, 5, 0, 4, 0)
	mustCharge(t, "the last time", b, impl.MaxTime, 0, 10, 0)
	first := b
	first.Time = 0
	mustNotCharge(t, "now below 0", first, -1, 0)
	for _, units := range []int{math.MinInt, -1, 1000001, math.MaxInt} {
		mustNotCharge(t, "units", b, 5, units)
		mustNotCharge(t, "units", b, impl.MaxTime, units)
	}
	mustCharge(t, "the most units", b, 5, 1000000, -999996, 333332)
}

func TestTheLeastLevel(t *testing.T) {
	for _, at := range []struct{ level, units int }{{leastLevelTold, 0}, {leastLevelTold + 1, 1}, {leastLevelTold + 1000000, 1000000}} {
		b := impl.Bucket{Rate: 1, Burst: 1000000, Level: at.level, Time: 3}
		mustCharge(t, "just at it", b, 3, at.units, leastLevelTold, 1000000000000)
		b.Level--
		if b.Level >= leastLevelTold {
			mustNotCharge(t, "one below", b, 3, at.units)
			mustCharge(t, "one below, but a time later", b, 4, at.units, leastLevelTold, 1000000000000)
		}
	}
	b := impl.Bucket{Rate: 1000, Level: leastLevelTold, Time: 3}
	mustNotCharge(t, "one more", b, 3, 1)
	mustCharge(t, "what it grows by", b, 4, 1000, leastLevelTold, 1000000000)
	mustNotCharge(t, "one more than it grows by", b, 4, 1001)
	mustNotCharge(t, "many more", b, 4, 1000000)
}

func TestChargesAtTheLimits(t *testing.T) {
	most := impl.Bucket{Rate: 1000000, Burst: 1000000, Level: leastLevelTold}
	mustCharge(t, "all the time there is", most, impl.MaxTime, 0, 1000000, 0)
	mustCharge(t, "all the time there is, all used", most, impl.MaxTime, 1000000, 0, 0)
	most.Level = 1000000
	mustCharge(t, "full all the time", most, impl.MaxTime, 1000000, 0, 0)
	slow := impl.Bucket{Rate: 1, Level: leastLevelTold}
	mustCharge(t, "slow: just to 0", slow, impl.MaxTime, 0, 0, 0)
	mustCharge(t, "slow: one short", slow, impl.MaxTime-1, 0, -1, 1)
	mustCharge(t, "slow: just to 0, used", slow, impl.MaxTime, 1000000, -1000000, 1000000)
	for _, n := range []int{math.MinInt, math.MaxInt} {
		mustNotCharge(t, "all of them", impl.Bucket{Rate: n, Burst: n, Level: n, Time: n}, n, n)
		for _, m := range []int{math.MinInt, math.MaxInt} {
			mustNotCharge(t, "a time and units", impl.Bucket{Rate: 1, Burst: 1, Time: n}, m, m)
			mustNotCharge(t, "a time and units", impl.Bucket{Rate: 1, Burst: 1}, n, m)
		}
	}
}

// randomBucket is always right: small, or with numbers anywhere.
func randomBucket(r *rand.Rand) impl.Bucket {
	b := impl.Bucket{Rate: 1 + r.Intn(8), Burst: r.Intn(30), Time: r.Intn(50)}
	if r.Intn(2) == 0 {
		b = impl.Bucket{Rate: pick(r, 1, 2, 1000000, 999999, 1+r.Intn(1000000)), Burst: pick(r, 0, 1, 1000000, 999999, r.Intn(1000001)), Time: pick(r, 0, impl.MaxTime, impl.MaxTime-1, r.Intn(impl.MaxTime+1))}
		b.Level = pick(r, b.Burst, 0, -1, leastLevelTold, leastLevelTold+r.Intn(1000000), -r.Intn(-leastLevelTold), -r.Intn(1000000))
		return b
	}
	b.Level = b.Burst - r.Intn(60)
	return b
}

func randomCharge(r *rand.Rand, b impl.Bucket) (int, int) {
	now := min(b.Time+pick(r, 0, 1, 2, r.Intn(20), r.Intn(impl.MaxTime)), impl.MaxTime)
	return now, pick(r, 0, 1, r.Intn(20), r.Intn(60), 1000000, r.Intn(1000001))
}

func TestChargeIsAsTold(t *testing.T) {
	r := rand.New(rand.NewSource(137))
	done, not, waiting := 0, 0, 0
	for range 60000 {
		b := randomBucket(r)
		now, units := randomCharge(r, b)
		for range pick(r, 0, 0, 0, 1, 2) {
			beyond := []*int{&b.Rate, &b.Burst, &b.Level, &b.Time, &now, &units}
			*pick(r, beyond...) = pick(r, math.MinInt, math.MaxInt, -1, 0, 1, 1000000, 1000001, leastLevelTold, leastLevelTold-1, impl.MaxTime, impl.MaxTime+1, r.Int(), -r.Int())
		}
		got, wait, ok := impl.Charge(b, now, units)
		want, long, may := chargeAsTold(b, now, units)
		if got != want || wait != long || ok != may {
			t.Fatalf("%+v at %d, %d: %+v %d %v, not %+v %d %v", b, now, units, got, wait, ok, want, long, may)
		}
		switch {
		case !ok:
			not++
		case wait > 0:
			waiting++
		default:
			done++
		}
	}
	if done < 5000 || not < 5000 || waiting < 5000 {
		t.Error("what is tried is too much alike:", done, not, waiting)
	}
}

func TestChargeIsAsStepByStep(t *testing.T) {
	r := rand.New(rand.NewSource(138))
	for range 20000 {
		b := impl.Bucket{Rate: 1 + r.Intn(8), Burst: r.Intn(30), Time: r.Intn(50)}
		b.Level = b.Burst - r.Intn(60)
		now, units := b.Time+r.Intn(12), r.Intn(50)
		want, long := chargeStepByStep(b, now, units)
		if got, wait, ok := impl.Charge(b, now, units); got != want || wait != long || !ok {
			t.Fatalf("%+v at %d, %d: %+v %d %v, not %+v %d", b, now, units, got, wait, ok, want, long)
		}
	}
}

// A use is when so many units were used.
type use struct {
	at    int
	units int
}

// usesOf are uses of a bucket by one that is told first how long to wait, and does so each time, or longer.
func usesOf(t *testing.T, r *rand.Rand, b impl.Bucket, count int) []use {
	t.Helper()
	b, wait, ok := impl.Charge(b, b.Time, 0)
	if !ok {
		t.Fatalf("refused: %+v", b)
	}
	list := []use{}
	for range count {
		x := use{b.Time + wait + pick(r, 0, 0, 0, 1, r.Intn(5), r.Intn(100)), pick(r, 0, 1, b.Rate, b.Burst, r.Intn(b.Burst+1), r.Intn(3*b.Rate+1), r.Intn(1000))}
		x.units = min(x.units, impl.MaxRate)
		if x.at > impl.MaxTime {
			break
		}
		next, more, ok := impl.Charge(b, x.at, x.units)
		if !ok {
			t.Fatalf("refused: %+v, %+v", b, x)
		}
		if before, _, _ := impl.Charge(b, x.at, 0); before.Level < 0 {
			t.Fatalf("%+v: waited %d as told, and it is %d still", b, wait, before.Level)
		}
		if early, _, _ := impl.Charge(b, b.Time+max(wait-1, 0), 0); wait > 0 && early.Level >= 0 {
			t.Fatalf("%+v: told to wait %d, and it is free ahead of that", b, wait)
		}
		b, wait, list = next, more, append(list, x)
	}
	return list
}

// Promise 22.
func TestWhoeverWaitsUsesNoMore(t *testing.T) {
	r := rand.New(rand.NewSource(139))
	tight, uses := 0, 0
	for range 1500 {
		b := randomBucket(r)
		list := usesOf(t, r, b, 40)
		uses += len(list)
		used := 0
		for _, x := range list {
			if used > b.Level+b.Rate*(x.at-b.Time) {
				t.Fatalf("%+v: %d used ahead of %+v in %+v", b, used, x, list)
			}
			used += x.units
			if used > b.Level+b.Rate*(x.at-b.Time)+x.units {
				t.Fatalf("%+v: %d used up to %+v in %+v", b, used, x, list)
			}
		}
		for i := range list {
			sum := 0
			for j := i + 1; j < len(list); j++ {
				sum += list[j-1].units
				room := b.Burst + b.Rate*(list[j].at-list[i].at) - sum
				if room < 0 {
					t.Fatalf("%+v: %d used from %+v up to %+v", b, sum, list[i], list[j])
				}
				if room < b.Rate {
					tight++
				}
			}
		}
	}
	if tight < 1000 || uses < 20000 {
		t.Error("what is tried is too much alike:", tight, uses)
	}
}

// Used in two steps at one time, or looked at between, a bucket is what it is at once.
func TestChargesInPieces(t *testing.T) {
	r := rand.New(rand.NewSource(140))
	for range 10000 {
		b := randomBucket(r)
		now, units := randomCharge(r, b)
		want, long, ok := impl.Charge(b, now, units)
		if !ok {
			continue
		}
		between, _, first := impl.Charge(b, b.Time+r.Intn(now-b.Time+1), 0)
		half := r.Intn(units + 1)
		between, _, second := impl.Charge(between, now, half)
		got, wait, third := impl.Charge(between, now, units-half)
		if !first || !second || !third || got != want || wait != long {
			t.Fatalf("%+v at %d, %d: %+v %d, in pieces %+v %d", b, now, units, want, long, got, wait)
		}
	}
}
