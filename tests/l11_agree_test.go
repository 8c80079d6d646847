package tests

import (
	"fmt"
	"math"
	"math/rand"
	"slices"
	"testing"

	"loop.example/g00035/impl"
)

func apisOkAsTold(list []impl.Api) bool {
	ok := len(list) <= 40
	for i, a := range list {
		ok = ok && a.Key >= 0 && a.Key <= 1000 && 0 <= a.Least && a.Least <= a.Most && a.Most <= 1000
		ok = ok && (i == 0 || list[i-1].Key < a.Key)
	}
	return ok
}

// agreeAsTold looks for each Key and each version in turn.
func agreeAsTold(client []impl.Api, server []impl.Api) ([]impl.Api, bool) {
	if !apisOkAsTold(client) || !apisOkAsTold(server) {
		return nil, false
	}
	has := func(list []impl.Api, key int, version int) bool {
		return slices.ContainsFunc(list, func(a impl.Api) bool { return a.Key == key && a.Least <= version && version <= a.Most })
	}
	list := []impl.Api{}
	for _, a := range client {
		for version := 1000; version >= 0; version-- {
			if has(client, a.Key, version) && has(server, a.Key, version) {
				list = append(list, impl.Api{Key: a.Key, Least: version, Most: version})
				break
			}
		}
	}
	return list, true
}

// api is a Key with its versions.
func api(key int, least int, most int) impl.Api {
	return impl.Api{Key: key, Least: least, Most: most}
}

func mustAgree(t *testing.T, name string, client []impl.Api, server []impl.Api, want ...impl.Api) {
	t.Helper()
	for _, sides := range [][2][]impl.Api{{client, server}, {server, client}} {
		if list, ok := impl.Agree(sides[0], sides[1]); !ok || !slices.Equal(list, want) {
			t.Errorf("%s, %+v: %+v, %v, not %+v", name, sides, list, ok, want)
		}
	}
	if list, ok := agreeAsTold(client, server); !ok || !slices.Equal(list, want) {
		t.Errorf("%s, as told: %+v, %v", name, list, ok)
	}
}

func mustNotAgree(t *testing.T, name string, bad []impl.Api) {
	t.Helper()
	for _, other := range [][]impl.Api{nil, {}, {api(1, 0, 3)}, bad} {
		for _, sides := range [][2][]impl.Api{{bad, other}, {other, bad}} {
			if list, ok := impl.Agree(sides[0], sides[1]); ok || len(list) != 0 {
				t.Errorf("%s, %+v: %+v, %v", name, sides, list, ok)
			}
		}
	}
	if apisOkAsTold(bad) {
		t.Errorf("%s, as told: they are Apis", name)
	}
}

func TestAgree(t *testing.T) {
	some := []impl.Api{api(1, 0, 3), api(2, 1, 1), api(7, 2, 9)}
	mustAgree(t, "no Apis on both sides", nil, []impl.Api{})
	mustAgree(t, "no Apis on one side", some, nil)
	mustAgree(t, "with itself", some, some, api(1, 3, 3), api(2, 1, 1), api(7, 9, 9))
	mustAgree(t, "Keys that one side alone has", some, []impl.Api{api(0, 0, 1000), api(2, 0, 1000), api(3, 0, 1000), api(8, 0, 1000)}, api(2, 1, 1))
	mustAgree(t, "no Key that both have", some, []impl.Api{api(0, 0, 1000), api(3, 0, 1000), api(8, 0, 1000)})
	mustAgree(t, "one that both have, the first", some, []impl.Api{api(1, 2, 4)}, api(1, 3, 3))
	mustAgree(t, "one that both have, the last", some, []impl.Api{api(7, 0, 4)}, api(7, 4, 4))
	mustAgree(t, "some that lie apart", some, []impl.Api{api(1, 0, 9), api(2, 2, 9), api(7, 0, 1)}, api(1, 3, 3))
}

func TestAgreeOnVersions(t *testing.T) {
	five := []impl.Api{api(4, 5, 8)}
	for _, x := range []struct{ least, most, want int }{
		{0, 4, -1}, {4, 4, -1}, {9, 9, -1}, {9, 1000, -1}, {0, 0, -1}, {1000, 1000, -1},
		{0, 5, 5}, {5, 5, 5}, {8, 8, 8}, {8, 1000, 8}, {0, 6, 6}, {6, 7, 7}, {6, 6, 6}, {7, 9, 8}, {5, 8, 8}, {0, 1000, 8},
	} {
		name, other := fmt.Sprintf("%+v", x), []impl.Api{api(4, x.least, x.most)}
		if x.want < 0 {
			mustAgree(t, name, five, other)
		} else {
			mustAgree(t, name, five, other, api(4, x.want, x.want))
		}
	}
	mustAgree(t, "the first version", []impl.Api{api(4, 0, 0)}, []impl.Api{api(4, 0, 1000)}, api(4, 0, 0))
	mustAgree(t, "the last version", []impl.Api{api(4, 1000, 1000)}, []impl.Api{api(4, 0, 1000)}, api(4, 1000, 1000))
	mustAgree(t, "the first and the last", []impl.Api{api(4, 0, 0)}, []impl.Api{api(4, 1000, 1000)})
}

// countedApis are so many Apis with Keys three apart.
func countedApis(count int) []impl.Api {
	list := []impl.Api{}
	for key := range count {
		list = append(list, api(key*3, 1, 2))
	}
	return list
}

func TestBoundsOfApis(t *testing.T) {
	want := []impl.Api{}
	for _, a := range countedApis(40) {
		want = append(want, api(a.Key, 2, 2))
	}
	mustAgree(t, "as many as may be", countedApis(40), countedApis(40), want...)
	mustAgree(t, "as many on one side", countedApis(40), countedApis(2), want[:2]...)
	mustAgree(t, "as many on one side, none on the other", countedApis(40), nil)
	mustNotAgree(t, "one more", countedApis(41))
	mustNotAgree(t, "many more", countedApis(300))
	for _, key := range []int{0, 1, 999, 1000} {
		mustAgree(t, "a Key", []impl.Api{api(key, 0, 1)}, []impl.Api{api(key, 0, 1)}, api(key, 1, 1))
	}
	for _, key := range []int{math.MinInt, -1, 1001, math.MaxInt} {
		mustNotAgree(t, "a Key", []impl.Api{api(key, 0, 1)})
	}
	mustNotAgree(t, "a Key of -1 ahead of others", []impl.Api{api(-1, 0, 1), api(1, 0, 1)})
	mustNotAgree(t, "a Key of 1001 behind others", []impl.Api{api(1, 0, 1), api(1001, 0, 1)})
	mustNotAgree(t, "Keys that fall", []impl.Api{api(2, 0, 1), api(1, 0, 1)})
	mustNotAgree(t, "Keys that fall at the end", []impl.Api{api(1, 0, 1), api(3, 0, 1), api(2, 0, 1)})
	mustNotAgree(t, "a Key twice", []impl.Api{api(1, 0, 1), api(1, 0, 1)})
	mustNotAgree(t, "a Key twice with other versions", []impl.Api{api(1, 0, 1), api(1, 2, 3)})
	mustNotAgree(t, "a Key twice at the end", []impl.Api{api(0, 0, 1), api(1, 0, 1), api(1, 2, 3)})
	for _, versions := range [][2]int{{-1, 0}, {-1, -1}, {1, 0}, {2, 1}, {1000, 999}, {0, 1001}, {1001, 1001}, {1001, 1000}, {math.MinInt, math.MaxInt}, {0, math.MaxInt}, {math.MinInt, 0}, {math.MaxInt, math.MinInt}, {0, -1}} {
		name := fmt.Sprint("versions ", versions)
		mustNotAgree(t, name, []impl.Api{api(1, versions[0], versions[1])})
		mustNotAgree(t, name+" behind others", []impl.Api{api(0, 0, 1), api(1, versions[0], versions[1])})
		mustNotAgree(t, name+" ahead of others", []impl.Api{api(1, versions[0], versions[1]), api(2, 0, 1)})
	}
	for _, versions := range [][2]int{{0, 0}, {0, 1000}, {1000, 1000}, {999, 1000}, {5, 5}} {
		mustAgree(t, "versions", []impl.Api{api(1, versions[0], versions[1])}, []impl.Api{api(1, versions[0], versions[1])}, api(1, versions[1], versions[1]))
	}
	mustNotAgree(t, "the zero value twice", []impl.Api{{}, {}})
	mustAgree(t, "the zero value", []impl.Api{{}}, []impl.Api{{}}, impl.Api{})
}

// randomApis are always right; their Keys and versions lie close, so that two sides meet.
func randomApis(r *rand.Rand) []impl.Api {
	list := []impl.Api{}
	key := pick(r, 0, 0, 1, 5, 950)
	for range pick(r, 0, 1, 2, 3, 10, 20, 39, 40) {
		least := pick(r, 0, 1, r.Intn(6), r.Intn(20), 1000, r.Intn(1001))
		list = append(list, api(key, least, min(least+pick(r, 0, 0, 1, r.Intn(5), 1000), 1000)))
		if key += 1 + r.Intn(pick(r, 1, 2, 3, 20)); key > 1000 {
			break
		}
	}
	return list
}

// nearApis are another side's: most of the Keys, and versions that are not far away.
func nearApis(r *rand.Rand, list []impl.Api) []impl.Api {
	out := []impl.Api{}
	for _, a := range list {
		if r.Intn(5) == 0 {
			continue
		}
		least := min(max(a.Least+pick(r, 0, 0, 1, -1, r.Intn(9)-4), 0), 1000)
		most := min(max(a.Most+pick(r, 0, 0, 1, -1, r.Intn(9)-4, least-a.Most), least), 1000)
		out = append(out, api(a.Key, least, most))
	}
	return out
}

// spoilApis makes them none.
func spoilApis(r *rand.Rand, list []impl.Api) []impl.Api {
	if len(list) < 2 || r.Intn(8) == 0 {
		return countedApis(41 + r.Intn(3))
	}
	list = slices.Clone(list)
	i := r.Intn(len(list) - 1)
	switch r.Intn(5) {
	case 0:
		list[i], list[i+1] = list[i+1], list[i]
	case 1:
		list[i+1].Key = list[i].Key
	case 2:
		list[0].Key = pick(r, -1, math.MinInt)
	case 3:
		list[len(list)-1].Key = pick(r, 1001, math.MaxInt)
	default:
		list[i] = api(list[i].Key, pick(r, -1, 1001, list[i].Most+1), list[i].Most)
	}
	return list
}

// Promise 22.
func TestVersionsAreAgreedOnAlike(t *testing.T) {
	r := rand.New(rand.NewSource(141))
	agreed, apart, not := 0, 0, 0
	for range 8000 {
		client := randomApis(r)
		server := pick(r, randomApis(r), nearApis(r, client))
		if r.Intn(8) == 0 {
			client = spoilApis(r, client)
		}
		if r.Intn(8) == 0 {
			server = spoilApis(r, server)
		}
		list, ok := impl.Agree(client, server)
		again, alike := impl.Agree(server, client)
		if ok != alike || !slices.Equal(list, again) {
			t.Fatalf("%+v and %+v: %+v %v, from the other side %+v %v", client, server, list, ok, again, alike)
		}
		want, may := agreeAsTold(client, server)
		if ok != may || !slices.Equal(list, want) {
			t.Fatalf("%+v and %+v: %+v %v, not %+v %v", client, server, list, ok, want, may)
		}
		if !ok {
			not++
			continue
		}
		agreed += len(list)
		apart += min(len(client), len(server)) - len(list)
		// What was agreed on is agreed on again, by each side and with itself.
		for _, side := range [][]impl.Api{client, server, list} {
			if same, ok := impl.Agree(list, side); !ok || !slices.Equal(same, list) {
				t.Fatalf("%+v with %+v: %+v", list, side, same)
			}
		}
	}
	if agreed < 10000 || apart < 10000 || not < 1000 {
		t.Error("the Apis to try are too much alike:", agreed, apart, not)
	}
}
