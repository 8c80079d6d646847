package tests

import (
	"fmt"
	"math"
	"math/rand"
	"regexp"
	"slices"
	"strings"
	"testing"

	"loop.example/g00035/impl"
)

func TestLimitsOfAccess(t *testing.T) {
	limits := []int{impl.MaxRules, impl.MaxRuleText, impl.MaxRate, impl.MaxApis}
	if !slices.Equal(limits, []int{100, 4000, 1000000, 40}) {
		t.Error("a limit is another than the document's:", limits)
	}
	mays := []int{impl.MayRead, impl.MayWrite, impl.MayMake, impl.MayAll}
	if !slices.Equal(mays, []int{1, 2, 3, 4}) || impl.OnTopic != 1 || impl.OnGroup != 2 {
		t.Error("a number is another than the document's:", mays, impl.OnTopic, impl.OnGroup)
	}
}

var nameForm = regexp.MustCompile(`^[A-Za-z][A-Za-z0-9_]{0,19}$`)

var ruleForm = regexp.MustCompile(`^(allow|deny) (\*|[A-Za-z][A-Za-z0-9_]{0,19}) (read|write|make|all) (topic|group) ([A-Za-z][A-Za-z0-9_]{0,19}|)(\*?)\n$`)

func ruleOkAsTold(x impl.Rule) bool {
	return (x.Who == "*" || nameForm.MatchString(x.Who)) && inBounds(x.May, 1, 4) && inBounds(x.On, 1, 2) && (nameForm.MatchString(x.Name) || x.Begins && x.Name == "")
}

// showAsTold tells beside the text whether there is one.
func showAsTold(list []impl.Rule) (string, bool) {
	text := ""
	for _, x := range list {
		if !ruleOkAsTold(x) {
			return "", false
		}
		text += fmt.Sprintf("%s %s %s %s %s%s\n", map[bool]string{false: "allow", true: "deny"}[x.Deny], x.Who, strings.Fields("read write make all")[x.May-1], strings.Fields("topic group")[x.On-1], x.Name, map[bool]string{true: "*"}[x.Begins])
	}
	if len(list) > 100 || len(text) > 4000 {
		return "", false
	}
	return text, true
}

func parseAsTold(text string) ([]impl.Rule, int) {
	if len(text) > 4000 {
		return nil, 1
	}
	list := []impl.Rule{}
	for i, line := range strings.SplitAfter(text, "\n") {
		if line == "" {
			break
		}
		words := ruleForm.FindStringSubmatch(line)
		if words == nil || words[5]+words[6] == "" || i == 100 {
			return nil, i + 1
		}
		may := map[string]int{"read": 1, "write": 2, "make": 3, "all": 4}[words[3]]
		on := map[string]int{"topic": 1, "group": 2}[words[4]]
		list = append(list, impl.Rule{Deny: words[1] == "deny", Who: words[2], May: may, On: on, Name: words[5], Begins: words[6] == "*"})
	}
	return list, 0
}

// mustShow: the list has that text, and comes back from it.
func mustShow(t *testing.T, name string, list []impl.Rule, want string) {
	t.Helper()
	if text := impl.ShowRules(list); text != want {
		t.Errorf("%s: %q, not %q", name, text, want)
	}
	if again, line := impl.ParseRules(want); line != 0 || !slices.Equal(again, list) {
		t.Errorf("%s: %q comes back as %+v, %d", name, want, again, line)
	}
	if told, ok := showAsTold(list); !ok || told != want {
		t.Errorf("%s, as told: %q", name, told)
	}
}

func mustNotShow(t *testing.T, name string, list []impl.Rule) {
	t.Helper()
	if text := impl.ShowRules(list); text != "" {
		t.Errorf("%s: %q", name, text)
	}
	if _, ok := showAsTold(list); ok {
		t.Errorf("%s, as told: there is a text", name)
	}
}

func mustParse(t *testing.T, name string, text string, want ...impl.Rule) {
	t.Helper()
	if list, line := impl.ParseRules(text); line != 0 || !slices.Equal(list, want) {
		t.Errorf("%s, %q: %+v, %d, not %+v", name, text, list, line, want)
	}
	if again := impl.ShowRules(want); again != text {
		t.Errorf("%s: %q is not %q", name, again, text)
	}
	if told, line := parseAsTold(text); line != 0 || !slices.Equal(told, want) {
		t.Errorf("%s, as told: %+v, %d", name, told, line)
	}
}

func mustNotParse(t *testing.T, name string, text string, want int) {
	t.Helper()
	if list, line := impl.ParseRules(text); line != want || len(list) != 0 {
		t.Errorf("%s, %q: %+v, line %d, not %d", name, text, list, line, want)
	}
	if list, line := parseAsTold(text); line != want {
		t.Errorf("%s, as told: %+v, line %d", name, list, line)
	}
}

var (
	annReads  = impl.Rule{Who: "ann", May: impl.MayRead, On: impl.OnTopic, Name: "orders"}
	bobNever  = impl.Rule{Deny: true, Who: "bob", May: impl.MayAll, On: impl.OnGroup, Begins: true}
	allWrite  = impl.Rule{Who: "*", May: impl.MayWrite, On: impl.OnTopic, Name: "log", Begins: true}
	annsLine  = "allow ann read topic orders\n"
	bobsLine  = "deny bob all group *\n"
	everyones = "allow * write topic log*\n"
)

func TestShowRules(t *testing.T) {
	mustShow(t, "no rules", nil, "")
	mustShow(t, "no rules", []impl.Rule{}, "")
	mustShow(t, "one", []impl.Rule{annReads}, annsLine)
	mustShow(t, "in their order", []impl.Rule{allWrite, annReads, bobNever}, everyones+annsLine+bobsLine)
	mustShow(t, "one twice", []impl.Rule{annReads, bobNever, annReads}, annsLine+bobsLine+annsLine)
	mustShow(t, "to make", []impl.Rule{{Who: "A", May: impl.MayMake, On: impl.OnGroup, Name: "z"}}, "allow A make group z\n")
	words := []impl.Rule{{Who: "deny", May: impl.MayAll, On: impl.OnTopic, Name: "allow"}, {Deny: true, Who: "allow", May: impl.MayRead, On: impl.OnGroup, Name: "group", Begins: true}}
	mustShow(t, "words as names", words, "allow deny all topic allow\ndeny allow read group group*\n")
}

// ruleChanges says of each field just what is right and what is not.
func ruleChanges() (map[string]impl.Rule, map[string]impl.Rule) {
	good, bad := map[string]impl.Rule{}, map[string]impl.Rule{}
	put := func(name string, ok bool, do func(x *impl.Rule)) {
		x := annReads
		do(&x)
		if ok {
			good[name] = x
		} else {
			bad[name] = x
		}
	}
	long := strings.Repeat("q", 20)
	put("as it is", true, func(x *impl.Rule) {})
	put("Deny", true, func(x *impl.Rule) { x.Deny = true })
	for _, name := range []string{"a", "Z", "a_", "a9", long} {
		put("Who "+name, true, func(x *impl.Rule) { x.Who = name })
		put("Name "+name, true, func(x *impl.Rule) { x.Name = name })
		put("Name that begins "+name, true, func(x *impl.Rule) { x.Name, x.Begins = name, true })
	}
	put("Who is all", true, func(x *impl.Rule) { x.Who = "*" })
	put("an empty beginning", true, func(x *impl.Rule) { x.Name, x.Begins = "", true })
	for _, name := range append(slices.Clone(noNames), "**", "a*", "*a", long+"q", "a\x80", "\xff", "\x00*") {
		put(fmt.Sprintf("Who %q", name), false, func(x *impl.Rule) { x.Who = name })
		put(fmt.Sprintf("Name %q", name), false, func(x *impl.Rule) { x.Name = name })
		if name != "" {
			put(fmt.Sprintf("Name that begins %q", name), false, func(x *impl.Rule) { x.Name, x.Begins = name, true })
		}
	}
	put("Name *", false, func(x *impl.Rule) { x.Name = "*" })
	put("Name that begins *", false, func(x *impl.Rule) { x.Name, x.Begins = "*", true })
	for _, may := range []int{math.MinInt, -1, 0, 1, 2, 3, 4, 5, 6, math.MaxInt} {
		put(fmt.Sprint("May ", may), may >= 1 && may <= 4, func(x *impl.Rule) { x.May = may })
	}
	for _, on := range []int{math.MinInt, -1, 0, 1, 2, 3, 4, math.MaxInt} {
		put(fmt.Sprint("On ", on), on == 1 || on == 2, func(x *impl.Rule) { x.On = on })
	}
	put("the zero value", false, func(x *impl.Rule) { *x = impl.Rule{} })
	return good, bad
}

func TestShowRulesOfEachField(t *testing.T) {
	good, bad := ruleChanges()
	for name, x := range good {
		text, _ := showAsTold([]impl.Rule{x})
		mustShow(t, name, []impl.Rule{x}, text)
		mustShow(t, name, []impl.Rule{annReads, x, bobNever}, annsLine+text+bobsLine)
	}
	for name, x := range bad {
		mustNotShow(t, name, []impl.Rule{x})
		mustNotShow(t, name+" behind others", []impl.Rule{annReads, bobNever, x})
		mustNotShow(t, name+" ahead of others", []impl.Rule{x, annReads, bobNever})
	}
}

// sameRules are so many of one rule.
func sameRules(x impl.Rule, count int) []impl.Rule {
	return slices.Repeat([]impl.Rule{x}, count)
}

// rulesOfSize has a text of that many bytes: 80 lines of 50 bytes, but the last one of more or fewer.
func rulesOfSize(size int) []impl.Rule {
	x := impl.Rule{Who: strings.Repeat("w", 12), May: impl.MayAll, On: impl.OnTopic, Name: strings.Repeat("n", 20)}
	list := sameRules(x, 80)
	list[79].Who = strings.Repeat("v", 12+size-4000)
	return list
}

func TestShowRulesAtTheLimits(t *testing.T) {
	mustShow(t, "as many as may be", sameRules(annReads, 100), strings.Repeat(annsLine, 100))
	mustNotShow(t, "one more", sameRules(annReads, 101))
	mustNotShow(t, "many more", sameRules(annReads, 1000))
	mustNotShow(t, "one more, that is none", append(sameRules(annReads, 100), impl.Rule{}))
	mustNotShow(t, "as many, one is none", append(sameRules(annReads, 99), impl.Rule{}))
	for _, size := range []int{3999, 4000} {
		text, _ := showAsTold(rulesOfSize(size))
		if len(text) != size {
			t.Fatal("the text has", len(text), "bytes, not", size)
		}
		mustShow(t, "a long text", rulesOfSize(size), text)
	}
	mustNotShow(t, "a text of one byte more", rulesOfSize(4001))
	mustNotShow(t, "a text of some bytes more", rulesOfSize(4008))
	mustNotShow(t, "a text of many more", sameRules(rulesOfSize(4000)[0], 100))
}

func TestParseRules(t *testing.T) {
	mustParse(t, "an empty text", "")
	mustParse(t, "one", annsLine, annReads)
	mustParse(t, "several", bobsLine+everyones+annsLine, bobNever, allWrite, annReads)
	mustParse(t, "all of Who", "deny * make group g\n", impl.Rule{Deny: true, Who: "*", May: impl.MayMake, On: impl.OnGroup, Name: "g"})
	mustParse(t, "all of Name", "allow ann read topic *\n", impl.Rule{Who: "ann", May: impl.MayRead, On: impl.OnTopic, Begins: true})
	mustParse(t, "a beginning", "allow ann read topic a*\n", impl.Rule{Who: "ann", May: impl.MayRead, On: impl.OnTopic, Name: "a", Begins: true})
	mustParse(t, "both of them", "allow * all topic *\n", impl.Rule{Who: "*", May: impl.MayAll, On: impl.OnTopic, Begins: true})
	long := strings.Repeat("x", 20)
	mustParse(t, "long names", "allow "+long+" read topic "+long+"*\n", impl.Rule{Who: long, May: impl.MayRead, On: impl.OnTopic, Name: long, Begins: true})
}

func TestLinesThatAreNone(t *testing.T) {
	bare := strings.TrimSuffix(annsLine, "\n")
	lines := map[string]string{
		"an empty line":           "",
		"a blank":                 " ",
		"a blank at the front":    " " + bare,
		"a blank at the end":      bare + " ",
		"a word more":             bare + " x",
		"a word more, a mark":     "allow ann read topic orders *",
		"another mark behind it":  "allow ann read topic orders # x",
		"words that are together": "allowannreadtopicorders",
		"tabs":                    strings.ReplaceAll(bare, " ", "\t"),
		"a tab at the end":        bare + "\t",
		"a line feed's neighbour": bare + "\r",
		"other ends":              bare + "\v",
		"a wide blank":            strings.Replace(bare, " ", "\u00a0", 1),
		"a blank's neighbour":     strings.Replace(bare, " ", "\u0120", 1),
		"no word of the first":    "permit ann read topic orders",
		"more of the first":       "allows ann read topic orders",
		"less of the first":       "allo ann read topic orders",
		"both of the first":       "allow deny ann read topic orders",
		"no word of May":          "allow ann see topic orders",
		"a May in digits":         "allow ann 1 topic orders",
		"less of a May":           "allow ann rea topic orders",
		"more of a May":           "allow ann reads topic orders",
		"a May that is a mark":    "allow ann * topic orders",
		"no word of On":           "allow ann read table orders",
		"an On in digits":         "allow ann read 1 orders",
		"more of an On":           "allow ann read topics orders",
		"an On that is a mark":    "allow ann read * orders",
		"May and On that change":  "allow ann topic read orders",
		"two marks as Who":        "allow ** read topic orders",
		"a mark behind Who":       "allow ann* read topic orders",
		"a mark ahead of Who":     "allow *ann read topic orders",
		"two marks as Name":       "allow ann read topic **",
		"two marks behind it":     "allow ann read topic orders**",
		"a mark in the middle":    "allow ann read topic or*ders",
		"a mark also there":       "allow ann read topic or*ders*",
		"a mark ahead of Name":    "allow ann read topic *orders",
		"a mark on both sides":    "allow ann read topic *orders*",
		"another mark":            "allow ann read topic orders?",
	}
	words := strings.Fields(bare)
	for i, word := range words {
		without := slices.Delete(slices.Clone(words), i, i+1)
		lines["without "+word] = strings.Join(without, " ")
		lines["twice "+word] = strings.Join(slices.Insert(slices.Clone(words), i, word), " ")
		lines["blanks ahead of "+word] = strings.Replace(bare, word, " "+word, 1)
		lines["none in place of "+word] = strings.Replace(bare, word, "", 1)
		if i < 4 && i != 1 {
			lines["a capital in "+word] = strings.Replace(bare, word, strings.ToUpper(word[:1])+word[1:], 1)
			lines["capitals in "+word] = strings.Replace(bare, word, strings.ToUpper(word), 1)
		}
	}
	for _, word := range []string{"DENY", "Deny"} {
		lines["capitals in "+word] = word + " ann read topic orders"
	}
	for _, word := range []string{"WRITE", "Make", "ALL", "All"} {
		lines["capitals in "+word] = "allow ann " + word + " topic orders"
	}
	for _, word := range []string{"GROUP", "Group", "Topic"} {
		lines["capitals in "+word] = "allow ann read " + word + " orders"
	}
	for _, name := range noNames {
		if strings.Contains(name, "\n") {
			continue
		}
		lines[fmt.Sprintf("%q as Who", name)] = "allow " + name + " read topic orders"
		lines[fmt.Sprintf("%q as Name", name)] = "allow ann read topic " + name
		if name != "" {
			lines[fmt.Sprintf("%q as a beginning", name)] = "allow ann read topic " + name + "*"
		}
	}
	for name, line := range lines {
		mustNotParse(t, name, line+"\n", 1)
		mustNotParse(t, name+", without the line end, behind another", everyones+line+"x", 2)
		mustNotParse(t, name+", ahead of others", line+"\n"+everyones+bobsLine, 1)
		mustNotParse(t, name+", between others", everyones+line+"\n"+bobsLine, 2)
		mustNotParse(t, name+", behind others", everyones+bobsLine+line+"\n", 3)
		mustNotParse(t, name+", twice", everyones+line+"\n"+bobsLine+line+"\n", 2)
	}
}

func TestTheLastLineEnd(t *testing.T) {
	for _, line := range []string{annsLine, bobsLine, everyones} {
		bare := strings.TrimSuffix(line, "\n")
		mustNotParse(t, "one line", bare, 1)
		mustNotParse(t, "the last of some", annsLine+bobsLine+bare, 3)
		for end := 1; end < len(bare); end++ {
			mustNotParse(t, "a part of a line", bare[:end], 1)
			mustNotParse(t, "a part of the last line", annsLine+bare[:end], 2)
		}
	}
	mustNotParse(t, "a line end alone", "\n", 1)
	mustNotParse(t, "line ends alone", "\n\n\n", 1)
	mustNotParse(t, "an empty line at the end", annsLine+"\n", 2)
	mustNotParse(t, "a blank at the end", annsLine+" ", 2)
	mustNotParse(t, "a line end of two", strings.ReplaceAll(annsLine+bobsLine, "\n", "\r\n"), 1)
	mustNotParse(t, "a line end of two at the end", annsLine+"allow ann read topic orders\r\n", 2)
	mustNotParse(t, "a line end turned", strings.ReplaceAll(annsLine+bobsLine, "\n", "\n\r"), 2)
	mustNotParse(t, "a nought behind it", annsLine+"\x00", 2)
}

func TestEachByteOfALine(t *testing.T) {
	const letters = "abcdefghijklmnopqrstuvwxyzABCDEFGHIJKLMNOPQRSTUVWXYZ"
	for c := range 256 {
		b := string([]byte{byte(c)})
		first := strings.Contains(letters, b)
		later := strings.Contains(letters+"0123456789_", b)
		forms := map[string]bool{"allow %s read topic o\n": first || b == "*", "allow q%s read topic o\n": later, "allow q%sq read topic o\n": later,
			"allow q read topic %s\n": first || b == "*", "allow q read topic q%s\n": later || b == "*", "allow q read topic q%sq\n": later, "allow q read topic %s*\n": first, "allow q read topic q%s*\n": later,
			"%sallow q read topic o\n": false, "allow%s q read topic o\n": false, "allow q re%sad topic o\n": false, "allow q read t%sopic o\n": false}
		for form, good := range forms {
			text := fmt.Sprintf(form, b)
			// A line end in a line is the end of one that is none.
			want := 1
			if good {
				want = 0
			}
			if b == "\n" && strings.HasPrefix(form, "allow q read topic q%s") {
				want = 2
			}
			if list, line := impl.ParseRules(text); line != want || len(list) != 1-min(want, 1) {
				t.Errorf("%q: %+v, %d, not %d", text, list, line, want)
			}
		}
	}
}

// What has more bytes than one is nothing else than what its last bits say.
func TestWideLettersOfALine(t *testing.T) {
	for _, wide := range []string{"\u010a", "\u0120", "\u012a", "\u0161", "\u2028", "\u0085", "\u00a0", "\ufffd", "\U0001000a", "\xc2", "\xe2\x80", "\xff\x0b", "\xc0\x8a", "\xed\xa0\x80"} {
		mustNotParse(t, "in place of the line end", annsLine+strings.Replace(bobsLine, "\n", wide, 1), 2)
		mustNotParse(t, "between two lines", strings.Replace(annsLine, "\n", wide, 1)+bobsLine, 1)
		mustNotParse(t, "in place of a blank", annsLine+strings.Replace(bobsLine, " ", wide, 1), 2)
		mustNotParse(t, "in place of a mark", annsLine+strings.Replace(bobsLine, "*", wide, 1), 2)
		mustNotParse(t, "in place of Who", annsLine+strings.Replace(bobsLine, "bob", wide, 1), 2)
		mustNotParse(t, "behind a name", strings.Replace(annsLine, "orders", "orders"+wide, 1)+bobsLine, 1)
		mustNotParse(t, "behind all", annsLine+bobsLine+wide, 3)
	}
}

func TestTheNumberOfALine(t *testing.T) {
	for _, count := range []int{1, 2, 3, 50, 99, 100} {
		lines := slices.Repeat([]string{annsLine}, count)
		for at := range lines {
			for _, bad := range []string{"\n", "x\n", "allow ann read topic\n", " " + annsLine} {
				text := strings.Join(lines[:at], "") + bad + strings.Join(lines[at+1:], "")
				mustNotParse(t, "one that is none", text, at+1)
				mustNotParse(t, "the rest is none", text+"x\n\n", at+1)
			}
		}
	}
}

func TestParseRulesAtTheLimits(t *testing.T) {
	full := strings.Repeat(annsLine, 100)
	mustParse(t, "as many as may be", full, sameRules(annReads, 100)...)
	mustParse(t, "one fewer", strings.Repeat(annsLine, 99), sameRules(annReads, 99)...)
	for _, more := range []string{annsLine, "\n", "x\n", " ", "x", "\x00", "allow", annsLine[:len(annsLine)-1], annsLine + annsLine, "\n\n", annsLine + "\n", strings.Repeat(annsLine, 20)} {
		mustNotParse(t, "one more", full+more, 101)
		mustNotParse(t, "the first is none", "x\n"+full+more, 1)
		mustNotParse(t, "the last that may be is none", strings.Repeat(annsLine, 99)+"x\n"+more, 100)
		mustNotParse(t, "one in the middle is none", strings.Repeat(annsLine, 49)+"\n"+strings.Repeat(annsLine, 50)+more, 50)
	}
	for _, size := range []int{3999, 4000} {
		text, _ := showAsTold(rulesOfSize(size))
		mustParse(t, "a long text", text, rulesOfSize(size)...)
	}
	text, _ := showAsTold(rulesOfSize(4000))
	last := text[:len(text)-50]
	mustNotParse(t, "a long text without the last line end", text[:3999]+"n", 80)
	mustNotParse(t, "a long text whose last line is none", last+strings.Repeat("x", 49)+"\n", 80)
	mustNotParse(t, "one byte more", last+"allow "+strings.Repeat("v", 13)+" all topic "+strings.Repeat("n", 20)+"\n", 1)
	mustNotParse(t, "a line end more", text+"\n", 1)
	mustNotParse(t, "a byte more that is none", text+"x", 1)
	mustNotParse(t, "many lines of many bytes", strings.Repeat(annsLine, 200), 1)
	mustNotParse(t, "many bytes", strings.Repeat("x", 4001), 1)
	mustNotParse(t, "many line ends", strings.Repeat("\n", 4001), 1)
	mustNotParse(t, "many bytes more", strings.Repeat(text, 50), 1)
}

// ruleNames are few, so that rules meet each other, and some are beginnings of others.
var ruleNames = []string{"a", "ab", "abc", "abd", "b", "B", "a_1", "b9", strings.Repeat("a", 19), strings.Repeat("a", 20), "all", "topic"}

// randomRule is always right.
func randomRule(r *rand.Rand) impl.Rule {
	x := impl.Rule{Deny: r.Intn(3) == 0, Who: pick(r, ruleNames...), May: 1 + r.Intn(4), On: 1 + r.Intn(2), Name: pick(r, ruleNames...), Begins: r.Intn(3) == 0}
	if r.Intn(4) == 0 {
		x.Who = "*"
	}
	if x.Begins && r.Intn(3) == 0 {
		x.Name = ""
	}
	return x
}

// randomRules are few as a rule; where they are many their text may be too long.
func randomRules(r *rand.Rand) []impl.Rule {
	list := []impl.Rule{}
	for range pick(r, 0, 1, 2, 3, 4, r.Intn(12), r.Intn(60), pick(r, 70, 90, 99, 100, 101, 120)) {
		list = append(list, randomRule(r))
	}
	return list
}

// spoilRules makes one of the rules none.
func spoilRules(r *rand.Rand, list []impl.Rule) []impl.Rule {
	list = append(slices.Clone(list), randomRule(r))
	x := &list[r.Intn(len(list))]
	switch r.Intn(5) {
	case 0:
		x.Who = pick(r, append(slices.Clone(noNames), "**", "a*")...)
	case 1:
		x.May = pick(r, 0, 5, -1, math.MaxInt, math.MinInt)
	case 2:
		x.On = pick(r, 0, 3, -1, math.MaxInt, math.MinInt)
	case 3:
		x.Name, x.Begins = pick(r, append(slices.Clone(noNames), "*", "a*")...), false
	default:
		x.Name, x.Begins = pick(r, append(slices.Clone(noNames[1:]), "*", "a*")...), true
	}
	return list
}

// mustComeBackAsRules is promise 21's first half; it tells whether there is a text.
func mustComeBackAsRules(t *testing.T, list []impl.Rule) bool {
	t.Helper()
	text := impl.ShowRules(list)
	want, shown := showAsTold(list)
	if text != want {
		t.Fatalf("%+v: %q, not %q", list, text, want)
	}
	if !shown {
		return false
	}
	if again, line := impl.ParseRules(text); line != 0 || !slices.Equal(again, list) {
		t.Fatalf("%+v: %q comes back as %+v, %d", list, text, again, line)
	}
	return true
}

// Promise 21.
func TestRulesComeBackFromTheirText(t *testing.T) {
	r := rand.New(rand.NewSource(132))
	shown, not := 0, 0
	for range 6000 {
		list := randomRules(r)
		if r.Intn(6) == 0 {
			list = spoilRules(r, list)
		}
		if mustComeBackAsRules(t, list) {
			shown++
		} else {
			not++
		}
	}
	if shown < 3000 || not < 600 {
		t.Error("the rules to try are too much alike:", shown, not)
	}
}

// nearText is a text of rules with some bytes or words changed, which may be one of rules still.
func nearText(r *rand.Rand) string {
	text, _ := showAsTold(randomRules(r))
	for range r.Intn(3) {
		at := r.Intn(len(text) + 1)
		end := min(at+r.Intn(3), len(text))
		part := pick(r, "", "", "a", "b", "*", " ", "\n", "_", "9", "\x00", "\xff", "\u010a", "allow", "deny", "read", "all", "topic", "group", annsLine, "\n"+bobsLine)
		text = text[:at] + part + text[end:]
	}
	return text
}

// wordsText is lines of words in the order that they should have, mostly.
func wordsText(r *rand.Rand) string {
	text := ""
	for range 1 + r.Intn(3) {
		words := []string{pick(r, "allow", "deny"), pick(r, "*", "a", "Z_9", "read"), pick(r, "read", "write", "make", "all"), pick(r, "topic", "group"), pick(r, "*", "a", "b*", "group*")}
		if r.Intn(5) == 0 {
			i := r.Intn(len(words))
			words[i] = pick(r, "", "*", "**", "allow", "all", "group", "9", "a ", "\t")
		}
		text += strings.Join(words, " ") + pick(r, "\n", "\n", "\n", "\n", "\n", "\n", "\n", "\n", "", " \n", "\r\n", "\n\n")
	}
	return text
}

// Promise 21: what is taken is the text of what comes of it; and what is not is told at its line.
func TestATextOfRulesIsTheirs(t *testing.T) {
	r := rand.New(rand.NewSource(133))
	taken, lines := 0, map[int]int{}
	for range 20000 {
		text := pick(r, nearText, nearText, wordsText, func(r *rand.Rand) string { return string(randomBytes(r, r.Intn(60), 256)) })(r)
		list, line := impl.ParseRules(text)
		want, at := parseAsTold(text)
		if line != at || !slices.Equal(list, want) {
			t.Fatalf("%q: %+v, %d, not %+v, %d", text, list, line, want, at)
		}
		if line != 0 {
			lines[line]++
			continue
		}
		taken++
		if again := impl.ShowRules(list); again != text {
			t.Fatalf("%q is taken, and shown as %q", text, again)
		}
	}
	if taken < 4000 || lines[1] < 2000 || lines[2] < 500 || len(lines) < 40 {
		t.Error("the texts to try are too much alike:", taken, lines)
	}
}
