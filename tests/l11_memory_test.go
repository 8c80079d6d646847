package tests

import (
	"math/rand"
	"slices"
	"strings"
	"testing"

	"loop.example/g00035/impl"
)

var (
	ruleBehind = impl.Rule{Deny: true, Who: "*", May: impl.MayAll, On: impl.OnTopic, Begins: true}
	apiBehind  = impl.Api{Key: -7, Least: -7, Most: -7}
)

func TestAccessLeavesArgumentsAlone(t *testing.T) {
	r := rand.New(rand.NewSource(142))
	for range 2000 {
		list, client, server := randomRules(r), randomApis(r), randomApis(r)
		if r.Intn(6) == 0 {
			list, client = spoilRules(r, list), spoilApis(r, client)
		}
		a := askFor(r, list)
		list, client, server = withRoom(list, ruleBehind), withRoom(client, apiBehind), withRoom(server, apiBehind)
		asList, asClient, asServer := withAllRoom(list), withAllRoom(client), withAllRoom(server)
		impl.ShowRules(list)
		allowed(list, a)
		impl.Agree(client, server)
		impl.Agree(server, client)
		if !slices.Equal(withAllRoom(list), asList) || !slices.Equal(withAllRoom(client), asClient) || !slices.Equal(withAllRoom(server), asServer) {
			t.Fatalf("an argument was changed: %+v %+v %+v", asList, asClient, asServer)
		}
	}
}

// What lies behind a list's length is not looked at.
func TestAccessLooksNotBehindTheLength(t *testing.T) {
	r := rand.New(rand.NewSource(143))
	for range 2000 {
		list, client, server := randomRules(r), randomApis(r), randomApis(r)
		behind := pick(r, ruleBehind, impl.Rule{}, impl.Rule{Who: "*", May: impl.MayAll, On: impl.OnTopic, Begins: true})
		roomy := withRoom(list, behind)
		if impl.ShowRules(roomy) != impl.ShowRules(list) {
			t.Fatalf("with room: %q, without: %q", impl.ShowRules(roomy), impl.ShowRules(list))
		}
		for range 4 {
			if a := askFor(r, list); allowed(roomy, a) != allowed(list, a) {
				t.Fatalf("%+v, %+v: another answer with room", list, a)
			}
		}
		want, ok := impl.Agree(client, server)
		next := pick(r, apiBehind, api(1000, 0, 1000))
		if got, same := impl.Agree(withRoom(client, next), withRoom(server, next)); same != ok || !slices.Equal(got, want) {
			t.Fatalf("with room: %+v, without: %+v", got, want)
		}
	}
}

func TestAccessAnswersAreNewMemory(t *testing.T) {
	r := rand.New(rand.NewSource(144))
	for range 2000 {
		client, server := withRoom(randomApis(r), apiBehind), withRoom(randomApis(r), apiBehind)
		list, _ := impl.Agree(client, server)
		mustBeNew(t, "Agree", list, client, server)
		same, _ := impl.Agree(list, list)
		mustBeNew(t, "Agree with itself", same, list)
		text := impl.ShowRules(randomRules(r))
		rules, _ := impl.ParseRules(text)
		again, _ := impl.ParseRules(text)
		mustBeNew(t, "ParseRules", rules, again)
		for i := range rules {
			rules[i] = ruleBehind
		}
		_ = append(rules, ruleBehind)
		if last, line := impl.ParseRules(text); line != 0 || !slices.Equal(last, again) {
			t.Fatalf("%q: %+v, and before that %+v", text, last, again)
		}
	}
}

// Nothing stays from what was refused, or from what was done.
func TestAccessKeepsNothing(t *testing.T) {
	for range 3 {
		mustNotParse(t, "a line that is none", annsLine+bobsLine+"x\n", 3)
		mustParse(t, "two", annsLine+bobsLine, annReads, bobNever)
		mustNotShow(t, "one that is none", []impl.Rule{annReads, {}})
		mustShow(t, "one", []impl.Rule{annReads}, annsLine)
		mustNotParse(t, "too many", strings.Repeat(annsLine, 101), 101)
		mustAllow(t, "allow ann read topic orders", ask{"ann", impl.MayRead, impl.OnTopic, "orders"}, true)
		mustAllow(t, "", ask{"ann", impl.MayRead, impl.OnTopic, "orders"}, false)
		mustCharge(t, "used", impl.Bucket{Rate: 1, Burst: 5, Level: 5}, 0, 5, 0, 0)
		mustNotCharge(t, "refused", impl.Bucket{Rate: 1, Burst: 5, Level: 6}, 0, 5)
		mustAgree(t, "one", []impl.Api{api(1, 0, 3)}, []impl.Api{api(1, 2, 4)}, api(1, 3, 3))
	}
}
