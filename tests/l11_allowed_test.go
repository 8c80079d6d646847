package tests

import (
	"fmt"
	"math"
	"math/rand"
	"slices"
	"strings"
	"testing"

	"loop.example/g00035/impl"
)

// An ask is who would do what to which topic or group.
type ask struct {
	who  string
	may  int
	on   int
	name string
}

func allowed(list []impl.Rule, a ask) bool {
	return impl.Allowed(list, a.who, a.may, a.on, a.name)
}

// allowedAsTold counts the rules of each sort that are for it.
func allowedAsTold(list []impl.Rule, a ask) bool {
	if _, shown := showAsTold(list); !shown {
		return false
	}
	if !nameForm.MatchString(a.who) || !nameForm.MatchString(a.name) || !inBounds(a.may, 1, 3) || !inBounds(a.on, 1, 2) {
		return false
	}
	count := map[bool]int{}
	for _, x := range list {
		whose := x.Who == "*" || x.Who == a.who
		may := x.May == 4 || x.May == a.may
		name := x.Name == a.name
		if x.Begins {
			name = len(x.Name) <= len(a.name) && a.name[:len(x.Name)] == x.Name
		}
		if whose && may && x.On == a.on && name {
			count[x.Deny]++
		}
	}
	return count[false] > 0 && count[true] == 0
}

// rulesIn reads rules, one a line, from a text with ; in place of line ends.
func rulesIn(t *testing.T, text string) []impl.Rule {
	t.Helper()
	if text == "" {
		return nil
	}
	list, line := parseAsTold(strings.ReplaceAll(text, ";", "\n") + "\n")
	if line != 0 {
		t.Fatalf("no rules: %q", text)
	}
	return list
}

func mustAllow(t *testing.T, rules string, a ask, want bool) {
	t.Helper()
	list := rulesIn(t, rules)
	if got := allowed(list, a); got != want {
		t.Errorf("%q, %+v: %v", rules, a, got)
	}
	if told := allowedAsTold(list, a); told != want {
		t.Errorf("%q, %+v, as told: %v", rules, a, told)
	}
}

func TestAllowed(t *testing.T) {
	reads := ask{"ann", impl.MayRead, impl.OnTopic, "orders"}
	mustAllow(t, "", reads, false)
	mustAllow(t, "allow ann read topic orders", reads, true)
	mustAllow(t, "deny ann read topic orders", reads, false)
	mustAllow(t, "allow bob read topic orders", reads, false)
	mustAllow(t, "allow Ann read topic orders", reads, false)
	mustAllow(t, "allow an read topic orders", reads, false)
	mustAllow(t, "allow anna read topic orders", reads, false)
	mustAllow(t, "allow * read topic orders", reads, true)
	mustAllow(t, "allow ann write topic orders", reads, false)
	mustAllow(t, "allow ann make topic orders", reads, false)
	mustAllow(t, "allow ann all topic orders", reads, true)
	mustAllow(t, "allow ann read group orders", reads, false)
	mustAllow(t, "allow ann read topic order", reads, false)
	mustAllow(t, "allow ann read topic orders1", reads, false)
	mustAllow(t, "allow ann read topic Orders", reads, false)
	mustAllow(t, "allow orders read topic ann", reads, false)
}

func TestAllowedByABeginning(t *testing.T) {
	reads := ask{"ann", impl.MayRead, impl.OnTopic, "orders"}
	for rule, want := range map[string]bool{"*": true, "o*": true, "order*": true, "orders*": true, "orders1*": false, "orderS*": false, "O*": false, "r*": false, "rders*": false, "order": false, "o": false} {
		mustAllow(t, "allow ann read topic "+rule, reads, want)
		mustAllow(t, "allow * all topic "+rule, reads, want)
		mustAllow(t, "allow * all topic *;deny ann read topic "+rule, reads, !want)
		mustAllow(t, "allow ann read group "+rule, reads, false)
	}
	mustAllow(t, "allow ann read topic o*", ask{"ann", impl.MayRead, impl.OnTopic, "o"}, true)
	mustAllow(t, "allow ann read topic oo*", ask{"ann", impl.MayRead, impl.OnTopic, "o"}, false)
	long := strings.Repeat("x", 20)
	mustAllow(t, "allow ann read topic "+long+"*", ask{"ann", impl.MayRead, impl.OnTopic, long}, true)
	mustAllow(t, "allow ann read topic "+long+"*", ask{"ann", impl.MayRead, impl.OnTopic, long[1:]}, false)
}

func TestAllowedByEachMayAndOn(t *testing.T) {
	for may := range 5 {
		for on := range 3 {
			for _, x := range []struct {
				rule string
				may  int
				on   int
			}{{"read topic", 1, 1}, {"write topic", 2, 1}, {"make topic", 3, 1}, {"all topic", 0, 1}, {"read group", 1, 2}, {"write group", 2, 2}, {"make group", 3, 2}, {"all group", 0, 2}} {
				want := may >= 1 && may <= 3 && on >= 1 && on == x.on && (x.may == 0 || x.may == may)
				mustAllow(t, "allow ann "+x.rule+" a", ask{"ann", may, on, "a"}, want)
				mustAllow(t, "allow ann all topic a;allow ann all group a;deny ann "+x.rule+" a", ask{"ann", may, on, "a"}, !want && inBounds(may, 1, 3) && inBounds(on, 1, 2))
			}
		}
	}
	for _, n := range []int{math.MinInt, -1, 0, 4, 5, math.MaxInt} {
		mustAllow(t, "allow * all topic *;allow * all group *", ask{"ann", n, impl.OnTopic, "a"}, false)
		mustAllow(t, "allow * all topic *;allow * all group *", ask{"ann", impl.MayRead, n, "a"}, false)
	}
	mustAllow(t, "allow * all topic *;allow * all group *", ask{"ann", impl.MayMake, 3, "a"}, false)
	mustAllow(t, "allow * all topic *;allow * all group *", ask{"ann", impl.MayMake, impl.OnGroup, "a"}, true)
}

func TestAllowedWithDeny(t *testing.T) {
	reads := ask{"ann", impl.MayRead, impl.OnTopic, "orders"}
	for _, allow := range []string{"allow ann read topic orders", "allow * read topic orders", "allow ann all topic orders", "allow ann read topic *"} {
		for _, deny := range []string{"deny ann read topic orders", "deny * read topic orders", "deny ann all topic orders", "deny ann read topic *", "deny ann read topic ord*", "deny * all topic *"} {
			mustAllow(t, allow+";"+deny, reads, false)
			mustAllow(t, deny+";"+allow, reads, false)
			mustAllow(t, allow+";"+deny+";"+allow, reads, false)
			mustAllow(t, deny+";"+allow+";"+deny, reads, false)
			mustAllow(t, deny, reads, false)
		}
		for _, deny := range []string{"deny bob read topic orders", "deny * write topic orders", "deny ann all group orders", "deny ann read topic order", "deny ann read topic orders1*"} {
			mustAllow(t, allow+";"+deny, reads, true)
			mustAllow(t, deny+";"+allow, reads, true)
			mustAllow(t, deny, reads, false)
		}
	}
}

func TestAllowedOfNoNames(t *testing.T) {
	all := "allow * all topic *;allow * all group *"
	for _, name := range append(slices.Clone(noNames), "*", "a*", "**", "\xff") {
		mustAllow(t, all, ask{name, impl.MayRead, impl.OnTopic, "a"}, false)
		mustAllow(t, all, ask{"a", impl.MayRead, impl.OnTopic, name}, false)
		mustAllow(t, all, ask{name, impl.MayRead, impl.OnGroup, name}, false)
	}
	for _, name := range []string{"a", "Z", "a_9", strings.Repeat("x", 20)} {
		mustAllow(t, all, ask{name, impl.MayRead, impl.OnTopic, name}, true)
	}
}

func TestAllowedByWhatIsNotShown(t *testing.T) {
	reads := ask{"ann", impl.MayRead, impl.OnTopic, "orders"}
	if allowed(nil, reads) || allowed([]impl.Rule{}, reads) {
		t.Error("allowed by nothing")
	}
	if !allowed(sameRules(annReads, 100), reads) {
		t.Error("as many as may be are refused")
	}
	if allowed(sameRules(annReads, 101), reads) || allowed(sameRules(annReads, 500), reads) {
		t.Error("allowed by more rules than there may be")
	}
	for _, size := range []int{3999, 4000, 4001, 4008} {
		list := rulesOfSize(size)
		a := ask{list[0].Who, impl.MayWrite, impl.OnTopic, list[0].Name}
		if allowed(list, a) != (size <= 4000) || allowedAsTold(list, a) != (size <= 4000) {
			t.Error("a text of", size, "bytes:", allowed(list, a))
		}
	}
	good, bad := ruleChanges()
	for name, x := range good {
		x.Deny = false
		if !allowed([]impl.Rule{x, annReads}, reads) || !allowed([]impl.Rule{annReads, x}, reads) {
			t.Errorf("%s: it is refused", name)
		}
	}
	for name, x := range bad {
		for _, list := range [][]impl.Rule{{x}, {x, annReads}, {annReads, x}, {annReads, x, annReads}} {
			if allowed(list, reads) || allowedAsTold(list, reads) {
				t.Errorf("%s: allowed by %+v", name, list)
			}
		}
	}
	// A rule that is none, and would be for it by its fields.
	for _, x := range []impl.Rule{{Who: "*", May: impl.MayAll, On: impl.OnTopic}, {Who: "", May: impl.MayAll, On: impl.OnTopic, Begins: true}, {Who: "*", May: impl.MayAll, On: 0, Begins: true}} {
		for on := range 4 {
			if allowed([]impl.Rule{x}, ask{"ann", impl.MayRead, on, "orders"}) {
				t.Errorf("allowed by %+v, on %d", x, on)
			}
		}
	}
}

func randomAsk(r *rand.Rand) ask {
	return ask{pick(r, ruleNames...), 1 + r.Intn(3), 1 + r.Intn(2), pick(r, ruleNames...)}
}

// askFor is something that a rule of the list is for, mostly.
func askFor(r *rand.Rand, list []impl.Rule) ask {
	a := randomAsk(r)
	if len(list) == 0 {
		return a
	}
	x := list[r.Intn(len(list))]
	if x.Who != "*" {
		a.who = x.Who
	}
	if x.May != impl.MayAll {
		a.may = x.May
	}
	a.on = x.On
	if !x.Begins || x.Name != "" && r.Intn(2) == 0 {
		a.name = x.Name
	}
	switch r.Intn(20) {
	case 0:
		a.who = pick(r, append(slices.Clone(noNames), "*")...)
	case 1:
		a.name = pick(r, append(slices.Clone(noNames), "*")...)
	case 2:
		a.may = pick(r, 0, 4, 5, -1)
	case 3:
		a.on = pick(r, 0, 3, -1)
	}
	return a
}

func TestAllowedIsAsTold(t *testing.T) {
	r := rand.New(rand.NewSource(134))
	count := map[bool]int{}
	for range 8000 {
		list := randomRules(r)
		if r.Intn(10) == 0 {
			list = spoilRules(r, list)
		}
		for range 4 {
			a := askFor(r, list)
			got := allowed(list, a)
			count[got]++
			if got != allowedAsTold(list, a) {
				t.Fatalf("%+v, %+v: %v", list, a, got)
			}
		}
	}
	if count[true] < 3000 || count[false] < 3000 {
		t.Error("what is asked is too much alike:", count)
	}
}

// oneMore puts a rule somewhere among the others.
func oneMore(r *rand.Rand, list []impl.Rule, x impl.Rule) []impl.Rule {
	return slices.Insert(slices.Clone(list), r.Intn(len(list)+1), x)
}

// Promise 21.
func TestARuleMore(t *testing.T) {
	r := rand.New(rand.NewSource(135))
	count := map[string]int{}
	for range 20000 {
		list := randomRules(r)
		if r.Intn(12) == 0 {
			list = spoilRules(r, list)
		}
		x := randomRule(r)
		more := oneMore(r, list, x)
		_, shown := showAsTold(more)
		for range 4 {
			a := pick(r, askFor(r, more), askFor(r, []impl.Rule{x}))
			before, after := allowed(list, a), allowed(more, a)
			if x.Deny && after && !before {
				t.Fatalf("%+v that denies allows %+v: %+v", x, a, list)
			}
			// Of a list that is one too many nothing is said.
			if !x.Deny && before && !after && shown {
				t.Fatalf("%+v that allows denies %+v: %+v", x, a, list)
			}
			count[fmt.Sprint(x.Deny, before, after)]++
		}
	}
	for _, way := range []string{"true true false", "true true true", "true false false", "false false true", "false true true", "false false false"} {
		if count[way] < 400 {
			t.Error("the rules to try are too much alike:", count)
		}
	}
}

// The order of rules, and one that stands twice, changes nothing.
func TestTheOrderOfRules(t *testing.T) {
	r := rand.New(rand.NewSource(136))
	for range 3000 {
		list := randomRules(r)
		if _, shown := showAsTold(list); !shown || len(list) > 40 {
			continue
		}
		turned := slices.Clone(list)
		r.Shuffle(len(turned), func(i, j int) { turned[i], turned[j] = turned[j], turned[i] })
		for range 4 {
			a := askFor(r, list)
			if got := allowed(list, a); allowed(turned, a) != got || allowed(slices.Repeat(list, 2), a) != got {
				t.Fatalf("%+v, %+v: another answer for %+v", list, a, turned)
			}
		}
	}
}
