package tests

import (
	"fmt"
	"math/rand"
	"regexp"
	"slices"
	"strconv"
	"strings"
	"testing"

	"loop.example/g00035/impl"
)

var wordForm = regexp.MustCompile(`\A(?:from|join|within|on|lookup|where|group|tumble|hop|session|get|as|not|and|or|count|sum|least|most)\z`)

var decimalForm = regexp.MustCompile(`\A(?:0|[1-9][0-9]{0,15})\z`)

// withForms puts what names and numbers are made of in the place of each W.
func withForms(form string) *regexp.Regexp {
	return regexp.MustCompile(strings.ReplaceAll(form, "W", `[A-Za-z0-9_]+`))
}

var (
	queryForm = withForms(`\Afrom (W)(?: join (W) within (W) on (W)| lookup (W) on (W))?(?: where (.+?))?(?: group (W(?:,W)*))?(?: (tumble|session) (W)| (hop) (W) (W))? get (.+)\z`)
	getForm   = withForms(`\A(?:(count)|(?:(sum|least|most) )?(.+)) as (W)\z`)
	halvesOf  = withForms(`\((?:not (W|#W;)|(W|#W;) ([-+*/%<=]|and|or) (W|#W;))\)`)
)

func freeName(name string) bool {
	return nameForm.MatchString(name) && !wordForm.MatchString(name)
}

func (x tree) text() string {
	switch {
	case x.step.Op == 1:
		return fmt.Sprint(x.step.Num)
	case x.step.Op == 2:
		return x.step.Name
	case x.step.Op == 12:
		return "(not " + x.below[0].text() + ")"
	}
	return fmt.Sprintf("(%s %s %s)", x.below[0].text(), opsAsTold[x.step.Op], x.below[1].text())
}

func stepsTextAsTold(steps []impl.Step) string {
	x, _ := expressionAsTold(steps)
	return x.text()
}

// namesAsTold are all names of a query.
func namesAsTold(q impl.Query) []string {
	list := append([]string{q.From, q.Join, q.Lookup, q.On}, q.Groups...)
	steps := slices.Clone(q.Where)
	for _, g := range q.Gets {
		list, steps = append(list, g.As), append(steps, g.Steps...)
	}
	for _, s := range steps {
		list = append(list, s.Name)
	}
	return list
}

func showQueryAsTold(q impl.Query) string {
	if !queryOkAsTold(q) || slices.ContainsFunc(namesAsTold(q), wordForm.MatchString) {
		return ""
	}
	text := "from " + q.From
	if q.Join != "" {
		text += fmt.Sprintf(" join %s within %d on %s", q.Join, q.Within, q.On)
	}
	if q.Lookup != "" {
		text += fmt.Sprintf(" lookup %s on %s", q.Lookup, q.On)
	}
	if len(q.Where) > 0 {
		text += " where " + stepsTextAsTold(q.Where)
	}
	if len(q.Groups) > 0 {
		text += " group " + strings.Join(q.Groups, ",")
	}
	text += []string{"", fmt.Sprint(" tumble ", q.Size), fmt.Sprintf(" hop %d %d", q.Size, q.Every), fmt.Sprint(" session ", q.Size)}[q.Window]
	for i, g := range q.Gets {
		text += []string{", ", " get "}[map[bool]int{true: 1}[i == 0]] + []string{"", "count", "sum ", "least ", "most "}[g.Kind]
		if g.Kind != 1 {
			text += stepsTextAsTold(g.Steps)
		}
		text += " as " + g.As
	}
	if len(text) > 1000 {
		return ""
	}
	return text
}

// leafAsTold takes a number, a column, or the place of steps that were read.
func leafAsTold(text string, known [][]impl.Step) ([]impl.Step, bool) {
	if place, there := strings.CutPrefix(text, "#"); there {
		at, err := strconv.Atoi(strings.TrimSuffix(place, ";"))
		if err != nil || at >= len(known) {
			return nil, false
		}
		return known[at], true
	}
	if decimalForm.MatchString(text) {
		n, _ := strconv.Atoi(text)
		return []impl.Step{{Op: 1, Num: n}}, true
	}
	return []impl.Step{{Op: 2, Name: text}}, freeName(text)
}

// readStepsAsTold puts a place for each pair of brackets, from the innermost on, until none is left.
func readStepsAsTold(text string) ([]impl.Step, bool) {
	known := [][]impl.Step{}
	if strings.Contains(text, "#") {
		return nil, false
	}
	for {
		at := halvesOf.FindStringSubmatchIndex(text)
		if at == nil {
			return leafAsTold(text, known)
		}
		parts := halvesOf.FindStringSubmatch(text)
		steps, ok := []impl.Step{}, true
		for _, leaf := range []string{parts[1], parts[2], parts[4]} {
			if leaf != "" {
				taken, good := leafAsTold(leaf, known)
				steps, ok = append(steps, taken...), ok && good
			}
		}
		op := 12
		if parts[3] != "" {
			op = slices.Index(opsAsTold, parts[3])
		}
		if !ok {
			return nil, false
		}
		known = append(known, append(steps, impl.Step{Op: op}))
		text = text[:at[0]] + fmt.Sprintf("#%d;", len(known)-1) + text[at[1]:]
	}
}

func readGetAsTold(text string) (impl.Get, bool) {
	parts := getForm.FindStringSubmatch(text)
	if parts == nil || !freeName(parts[4]) {
		return impl.Get{}, false
	}
	g, ok := impl.Get{Kind: slices.Index([]string{"", "count", "sum", "least", "most"}, parts[1]+parts[2]), As: parts[4]}, true
	if parts[1] == "" {
		g.Steps, ok = readStepsAsTold(parts[3])
	}
	return g, ok
}

func parseQueryAsTold(text string) (impl.Query, bool) {
	parts := queryForm.FindStringSubmatch(text)
	if parts == nil || len(text) > 1000 {
		return impl.Query{}, false
	}
	good := true
	read := func(text string) int {
		n, _ := strconv.Atoi(text)
		good = good && (text == "" || decimalForm.MatchString(text))
		return n
	}
	q := impl.Query{From: parts[1], Join: parts[2], Within: read(parts[3]), On: parts[4] + parts[6], Lookup: parts[5]}
	if parts[7] != "" {
		steps, ok := readStepsAsTold(parts[7])
		q.Where, good = steps, good && ok
	}
	if parts[8] != "" {
		q.Groups = strings.Split(parts[8], ",")
	}
	q.Window = slices.Index([]string{"", "tumble", "hop", "session"}, parts[9]+parts[11])
	q.Size, q.Every = read(parts[10]+parts[12]), read(parts[13])
	for _, part := range strings.Split(parts[14], ", ") {
		g, ok := readGetAsTold(part)
		q.Gets, good = append(q.Gets, g), good && ok
	}
	if !good || !queryOkAsTold(q) || slices.ContainsFunc(namesAsTold(q), wordForm.MatchString) {
		return impl.Query{}, false
	}
	return q, true
}

// mustShowQuery: a query has that text, and comes back from it.
func mustShowQuery(t *testing.T, name string, q impl.Query, want string) {
	t.Helper()
	if text := impl.ShowQuery(q); text != want {
		t.Errorf("%s: %q, not %q", name, text, want)
	}
	if again, ok := impl.ParseQuery(want); !ok || !sameQuery(again, q) {
		t.Errorf("%s: %q comes back as %+v, %v", name, want, again, ok)
	}
	if told := showQueryAsTold(q); told != want {
		t.Errorf("%s, as told: %q", name, told)
	}
	if told, ok := parseQueryAsTold(want); !ok || !sameQuery(told, q) {
		t.Errorf("%s, as told: %q comes back as %+v, %v", name, want, told, ok)
	}
}

// mustParseQuery: a text is one of a query.
func mustParseQuery(t *testing.T, name string, text string) {
	t.Helper()
	q, ok := impl.ParseQuery(text)
	if !ok || !impl.QueryOk(q) || impl.ShowQuery(q) != text {
		t.Errorf("%s, %q: %+v, %v, told as %q", name, text, q, ok, impl.ShowQuery(q))
	}
	if told, ok := parseQueryAsTold(text); !ok || !sameQuery(told, q) {
		t.Errorf("%s, %q, as told: %+v, %v", name, text, told, ok)
	}
}

func mustNotParseQuery(t *testing.T, name string, text string) {
	t.Helper()
	if q, ok := impl.ParseQuery(text); ok || !sameQuery(q, impl.Query{}) {
		t.Errorf("%s, %q: %+v, %v", name, text, q, ok)
	}
	if q, ok := parseQueryAsTold(text); ok {
		t.Errorf("%s, %q, as told: %+v", name, text, q)
	}
}

// mustHideQuery: what is a query has no text, and what would be that is none.
func mustHideQuery(t *testing.T, name string, q impl.Query, text string) {
	t.Helper()
	mustBeQuery(t, name, q)
	if got := impl.ShowQuery(q); got != "" {
		t.Errorf("%s: %q", name, got)
	}
	if told := showQueryAsTold(q); told != "" {
		t.Errorf("%s, as told: %q", name, told)
	}
	mustNotParseQuery(t, name, text)
}

func TestShowQuery(t *testing.T) {
	mustShowQuery(t, "the plainest", plainest(), "from orders get a as x")
	mustShowQuery(t, "all parts", richest(), "from orders join clicks within 5 on a where ((a < b) or 3) group a,b hop 10 5 get count as n, sum (a + b) as s, least b as l, most (not a) as m")
	mustShowQuery(t, "with Groups", grouping(), "from orders group a,b get count as n, sum (a + b) as s, least b as l, most (not a) as m")
	mustShowQuery(t, "a Lookup", looking(), "from orders lookup users on a get a as x")
	q := plainest()
	q.Join, q.Within, q.On = "clicks", 0, "user"
	mustShowQuery(t, "a Join alone", q, "from orders join clicks within 0 on user get a as x")
	q.Within = impl.MaxTime
	mustShowQuery(t, "as long as can be", q, "from orders join clicks within 1000000000000 on user get a as x")
	q = plainest()
	q.Where = stepsIn("0")
	mustShowQuery(t, "a Where alone", q, "from orders where 0 get a as x")
	q.Where, q.Gets[0].Steps = []impl.Step{}, stepsIn("1000000000000000")
	mustShowQuery(t, "the greatest number", q, "from orders get 1000000000000000 as x")
	q.Gets = append(q.Gets, getting(0, "a b *", "a"), getting(0, "a", "x"))
	mustShowQuery(t, "several values", q, "from orders get 1000000000000000 as x, (a * b) as a, a as x")
	q = tumbling()
	q.Groups, q.Gets, q.Size = []string{"k"}, q.Gets[:1], impl.MaxTime
	mustShowQuery(t, "a tumbling window", q, "from orders group k tumble 1000000000000 get count as n")
	q.Window, q.Size = 3, 1
	mustShowQuery(t, "a session", q, "from orders group k session 1 get count as n")
	q.Window, q.Size, q.Every = 2, 20, 1
	mustShowQuery(t, "hops", q, "from orders group k hop 20 1 get count as n")
	q.Lookup, q.On, q.Where = "orders", "k", stepsIn("k not")
	mustShowQuery(t, "all parts with a Lookup", q, "from orders lookup orders on k where (not k) group k hop 20 1 get count as n")
	for name, q := range someQueries() {
		mustShowQuery(t, name, q, showQueryAsTold(q))
	}
}

func TestShowQueryOfEachOp(t *testing.T) {
	for op := 3; op <= 11; op++ {
		word := opsAsTold[op]
		for steps, want := range map[string]string{
			"a b W":         "(a W b)",
			"1 2 W":         "(1 W 2)",
			"a b W c W":     "((a W b) W c)",
			"a b c W W":     "(a W (b W c))",
			"a b W c d W W": "((a W b) W (c W d))",
			"a b W not":     "(not (a W b))",
			"a not b W":     "((not a) W b)",
			"a b not W":     "(a W (not b))",
			"a b W 1 - 2 W": "(((a W b) - 1) W 2)",
			"1 2 a b W + W": "(1 W (2 + (a W b)))",
		} {
			q := plainest()
			q.Gets[0].Steps = stepsIn(strings.ReplaceAll(steps, "W", word))
			text := strings.ReplaceAll(want, "W", word)
			mustShowQuery(t, "a value", q, "from orders get "+text+" as x")
			q.Where = q.Gets[0].Steps
			mustShowQuery(t, "where", q, "from orders where "+text+" get "+text+" as x")
			q = grouping()
			q.Gets[2].Steps, q.Gets = stepsIn(strings.ReplaceAll(steps, "W", word)), q.Gets[2:3]
			mustShowQuery(t, "the least", q, "from orders group a,b get least "+text+" as l")
		}
	}
	q := plainest()
	q.Gets[0].Steps = nots(60)
	mustShowQuery(t, "many nots", q, "from orders get "+strings.Repeat("(not ", 59)+"a"+strings.Repeat(")", 59)+" as x")
	q.Gets[0].Steps = sums(59)
	mustShowQuery(t, "many to the left", q, "from orders get "+strings.Repeat("(", 29)+"a"+strings.Repeat(" + b)", 29)+" as x")
	q.Gets[0].Steps = stepsIn(strings.Repeat("a ", 30) + strings.Repeat("/ ", 29))
	mustShowQuery(t, "many to the right", q, "from orders get "+strings.Repeat("(a / ", 29)+"a"+strings.Repeat(")", 29)+" as x")
	mustNotParseQuery(t, "more nots than may be", "from orders get "+strings.Repeat("(not ", 60)+"a"+strings.Repeat(")", 60)+" as x")
	mustNotParseQuery(t, "more to the left than may be", "from orders get "+strings.Repeat("(", 30)+"a"+strings.Repeat(" + b)", 30)+" as x")
	mustNotParseQuery(t, "more to the right than may be", "from orders get "+strings.Repeat("(a / ", 30)+"a"+strings.Repeat(")", 30)+" as x")
}

// nameSpots put a name in each place where a query has one.
func nameSpots() map[string]func(name string) impl.Query {
	change := func(q impl.Query, do func(q *impl.Query)) impl.Query {
		do(&q)
		return q
	}
	at := func(name string) []impl.Step { return []impl.Step{{Op: 2, Name: name}} }
	return map[string]func(name string) impl.Query{
		"From":   func(name string) impl.Query { return change(plainest(), func(q *impl.Query) { q.From = name }) },
		"Join":   func(name string) impl.Query { return change(richest(), func(q *impl.Query) { q.Join = name }) },
		"Lookup": func(name string) impl.Query { return change(looking(), func(q *impl.Query) { q.Lookup = name }) },
		"On":     func(name string) impl.Query { return change(richest(), func(q *impl.Query) { q.On = name }) },
		"On, looked up": func(name string) impl.Query {
			return change(looking(), func(q *impl.Query) { q.On = name })
		},
		"Where": func(name string) impl.Query { return change(plainest(), func(q *impl.Query) { q.Where = at(name) }) },
		"Where, within": func(name string) impl.Query {
			return change(plainest(), func(q *impl.Query) { q.Where = slices.Concat(stepsIn("a"), at(name), stepsIn("+ not")) })
		},
		"Groups": func(name string) impl.Query {
			return change(grouping(), func(q *impl.Query) { q.Groups = []string{name} })
		},
		"Groups end": func(name string) impl.Query { return change(tumbling(), func(q *impl.Query) { q.Groups[1] = name }) },
		"a value": func(name string) impl.Query {
			return change(plainest(), func(q *impl.Query) { q.Gets[0].Steps = at(name) })
		},
		"a value, within": func(name string) impl.Query {
			return change(plainest(), func(q *impl.Query) { q.Gets[0].Steps = append(at(name), stepsIn("a *")...) })
		},
		"a sum": func(name string) impl.Query {
			return change(grouping(), func(q *impl.Query) { q.Gets[1].Steps = at(name) })
		},
		"a most, within": func(name string) impl.Query {
			return change(grouping(), func(q *impl.Query) { q.Gets[3].Steps = append(at(name), stepsIn("not")...) })
		},
		"As":     func(name string) impl.Query { return change(plainest(), func(q *impl.Query) { q.Gets[0].As = name }) },
		"As end": func(name string) impl.Query { return change(grouping(), func(q *impl.Query) { q.Gets[3].As = name }) },
	}
}

func TestWordsAreNoNames(t *testing.T) {
	words := strings.Fields("from join within on lookup where group tumble hop session get as not and or count sum least most")
	for spot, put := range nameSpots() {
		// What the text would be is told with a name in the word's place.
		text := impl.ShowQuery(put("qqq"))
		mustShowQuery(t, spot, put("qqq"), text)
		for _, word := range words {
			mustHideQuery(t, spot+" "+word, put(word), strings.ReplaceAll(text, "qqq", word))
			for _, name := range []string{word + "s", "x" + word, word + "_", word + "1", strings.ToUpper(word), strings.ToUpper(word[:1]) + word[1:], word[:len(word)-1] + "z"} {
				mustShowQuery(t, spot+" "+name, put(name), strings.ReplaceAll(text, "qqq", name))
			}
		}
		for _, name := range noNames {
			mustNotParseQuery(t, fmt.Sprintf("%s %q", spot, name), strings.ReplaceAll(text, "qqq", name))
		}
	}
	if len(words) != 19 {
		t.Error("words:", len(words))
	}
}

// queryOfSize has a text of that many bytes.
func queryOfSize(size int) impl.Query {
	q := impl.Query{From: "s"}
	for range 5 {
		q.Gets = append(q.Gets, getting(0, strings.Repeat("a ", 30)+strings.Repeat("+ ", 29), "x"))
	}
	rest := size - len(showQueryAsTold(q))
	for i := range q.Gets[0].Steps {
		if s := &q.Gets[0].Steps[i]; s.Op == 2 {
			more := min(rest, 19)
			s.Name, rest = strings.Repeat("a", 1+more), rest-more
		}
	}
	return q
}

func TestQueriesAtTheSizeOfAText(t *testing.T) {
	for size := 995; size <= 1000; size++ {
		q := queryOfSize(size)
		text := showQueryAsTold(q)
		if len(text) != size {
			t.Fatalf("%d bytes, not %d", len(text), size)
		}
		mustShowQuery(t, fmt.Sprint("bytes ", size), q, text)
	}
	text := showQueryAsTold(queryOfSize(1000))
	for more := 1; more < 100; more++ {
		q, longer := queryOfSize(1000), strings.Repeat("a", more%19+1)
		q.Gets[4].As += longer
		mustHideQuery(t, fmt.Sprint("bytes ", 1000+len(longer)), q, text+longer)
	}
	q := plainest()
	q.Gets = slices.Repeat([]impl.Get{{As: "x", Steps: stepsIn(strings.Repeat("aaaaaaaaaaaaaaaaaaaa ", 30) + strings.Repeat("and ", 29))}}, 8)
	mustHideQuery(t, "as long as can be", q, "from orders get "+strings.Repeat(stepsTextAsTold(q.Gets[0].Steps)+" as x, ", 7)+stepsTextAsTold(q.Gets[0].Steps)+" as x")
	for _, text := range []string{strings.Repeat("(", 1000), strings.Repeat("(", 1001), "from s get " + strings.Repeat("(", 900), "from s get " + strings.Repeat("(a + ", 190), "from s get " + strings.Repeat("(not ", 190), strings.Repeat("from ", 190), "from s get " + strings.Repeat("a as x, ", 120) + "a as x", "from s group " + strings.Repeat("a,", 400) + "b get count as n", strings.Repeat("x", 100000), strings.Repeat("from s get a as x", 10000)} {
		mustNotParseQuery(t, "long", text)
	}
}

func TestTextsOfNumbers(t *testing.T) {
	forms := []string{"from s join t within N on a get a as x", "from s where N get a as x", "from s get N as x", "from s get (a + N) as x", "from s get (N * 1) as x", "from s get (not N) as x", "from s group a tumble N get count as n", "from s group a session N get count as n", "from s group a hop N N get count as n", "from s group a hop 7 N get count as n", "from s group a get sum N as n"}
	for _, form := range forms {
		mustParseQuery(t, "a number", strings.ReplaceAll(form, "N", "7"))
		for _, bad := range []string{"07", "00", "007", "-7", "+7", "-0", "+0", " 7", "7 ", "7.", "7.0", ".7", "7e1", "7_0", "0x7", "7a", "a7b ", "", "\x37\x00", "٧", "1000000000000001", "9223372036854775807", "9223372036854775808", "18446744073709551616", "18446744073709551623", "99999999999999999999999999", "-9223372036854775808"} {
			mustNotParseQuery(t, "a number", strings.ReplaceAll(form, "N", bad))
		}
	}
	for text, want := range map[string]bool{"0": true, "1": true, "1000000000000": true, "1000000000001": false, "1000000000000000": false} {
		read := mustNotParseQuery
		if want {
			read = mustParseQuery
		}
		read(t, "Within", "from s join t within "+text+" on a get a as x")
	}
	for _, text := range []string{"0", "1", "10", "1000000000001", "1000000000000000"} {
		mustParseQuery(t, "a Num", "from s where "+text+" get "+text+" as x")
	}
	mustNotParseQuery(t, "no Size", "from s group a tumble 0 get count as n")
	mustNotParseQuery(t, "no Every", "from s group a hop 1 0 get count as n")
	mustNotParseQuery(t, "an Every too great", "from s group a hop 5 6 get count as n")
	mustNotParseQuery(t, "an Every too small", "from s group a hop 21 1 get count as n")
	mustNotParseQuery(t, "a Size too great", "from s group a session 1000000000001 get count as n")
	mustParseQuery(t, "a Size just so", "from s group a session 1000000000000 get count as n")
}

func TestTextsThatAreNoQueries(t *testing.T) {
	for _, text := range []string{
		"", " ", "from", "from ", "from s", "from s ", "from s get", "from s get ", "from s get a", "from s get a as", "from s get a as ", "get a as x", "s get a as x", "From s get a as x", "from s get a as x\n", "\nfrom s get a as x", "from s\nget a as x", "from\ts get a as x", "from s get a as x\x00", "from s;get a as x",
		"from s t get a as x", "froms get a as x", "from s geta as x", "from s get a asx", "from s get a x", "from s get as x", "from s get a as x as y", "from s get a as x y", "from s get a, b as x", "from s get a as x b as y", "from s get a as x,", "from s get a as x, ", "from s get , a as x", "from s get a as x, , b as y",
		"from s where get a as x", "from s where a b get a as x", "from s where a < b get a as x", "from s where get get a as x", "where a from s get a as x", "from s get a as x where a",
		"from s join t get a as x", "from s join t within 5 get a as x", "from s join t on a get a as x", "from s join t on a within 5 get a as x", "from s join within 5 on a get a as x", "from s join t within on a get a as x", "from s join t within 5 on get a as x", "from s within 5 join t on a get a as x", "from s on a get a as x", "from s within 5 on a get a as x", "from s join t 5 a get a as x",
		"from s lookup t get a as x", "from s lookup on a get a as x", "from s lookup t on get a as x", "from s lookup t within 5 on a get a as x", "from s lookup t within 0 on a get a as x", "from s join t within 5 on a lookup u on a get a as x", "from s lookup u on a join t within 5 on a get a as x",
		"from s group get count as n", "from s group a, get count as n", "from s group ,a get count as n", "from s group a,,b get count as n", "from s group a, b get count as n", "from s group a ,b get count as n", "from s group a b get count as n", "from s group a,a get count as n", "from s group (a) get count as n", "from s group 1 get count as n", "from s group a;b get count as n",
		"from s tumble 5 get a as x", "from s hop 5 5 get a as x", "from s session 5 get a as x", "from s group a tumble get count as n", "from s group a tumble 5 5 get count as n", "from s group a hop 5 get count as n", "from s group a hop get count as n", "from s group a hop 5 5 5 get count as n", "from s group a hop 5,5 get count as n", "from s group a session 5 5 get count as n", "from s group a session get count as n", "from s group a none get count as n", "from s group a tumble 5 session 5 get count as n", "from s tumble 5 group a get count as n",
		"from s get count as n", "from s get sum a as n", "from s get least a as n", "from s get most a as n", "from s get a as x, count as n", "from s group a get a as x", "from s group a get count as n, a as x", "from s group a get count a as n", "from s group a get sum as n", "from s group a get sum count as n", "from s group a get sum sum a as n", "from s group a get sum(a) as n", "from s group a get value a as n", "from s group a get countas n", "from s group a get sum  a as n",
	} {
		mustNotParseQuery(t, "no query", text)
	}
}

func TestTextsOfExpressions(t *testing.T) {
	read := func(steps string, bad bool) {
		for _, form := range []string{"from s get E as x", "from s where E get a as x", "from s group a get most E as x", "from s get (1 + E) as x", "from s get (E or a) as x", "from s get (not E) as x", "from s get a as y, E as x"} {
			text := strings.ReplaceAll(form, "E", steps)
			if bad {
				mustNotParseQuery(t, "an expression", text)
			} else {
				mustParseQuery(t, "an expression", text)
			}
		}
	}
	for _, good := range []string{"a", "7", "(a + b)", "(a and (not b))", "((a = 1) or (b < 2))", "(not (not a))", "(a - (b - (c - d)))", "(notes + nota)", "(andy and orb)", "(not notes)"} {
		read(good, false)
	}
	for _, bad := range []string{
		"(a)", "((a + b))", "()", "(", ")", "a + b", "(a + b", "a + b)", "(a + b))", "((a + b)", "(a+b)", "(a +b)", "(a+ b)", "( a + b)", "(a + b )", "(a  + b)", "(a +  b)", "(a b +)", "(+ a b)", "(a + b + c)", "(a + )", "( + b)", "(+ b)", "(a +)", "(a b)", "(a ^ b)", "(a == b)", "(a > b)", "(a <= b)", "(a & b)", "(a AND b)", "(a And b)", "(a not b)", "(a && b)", "(a . b)",
		"not a", "(not a b)", "(not)", "(not )", "(not  a)", "(not a )", "(nota)", "(Not a)", "not(a)", "(not(a + b))", "(not (a + b)", "not (a)", "(! a)", "(- a)", "-a", "(a +\tb)", "(a +\nb)", "[a + b]", "{a + b}", "(a + b)c", "c(a + b)", "(a + b) c", "\"a\"", "a.b", "*", "count", "sum a", "a as b", "a,b", "a, b", "#0", "(#0 + a)",
	} {
		read(bad, true)
	}
}

func TestTextsWithOneByteTooMany(t *testing.T) {
	for name, q := range someQueries() {
		text := impl.ShowQuery(q)
		for at := range len(text) + 1 {
			for _, more := range []string{" ", "(", ")", ",", "\n", "-", "\x80"} {
				mustNotParseQuery(t, name, text[:at]+more+text[at:])
			}
			// Groups without the comma between are one column.
			if at == len(text) || !strings.ContainsAny(text[at:at+1], " (),+<") || strings.HasPrefix(text[at:], ",b") {
				continue
			}
			mustNotParseQuery(t, name, text[:at]+text[at+1:])
		}
		mustNotParseQuery(t, name, text+" "+text)
	}
}

// Each part of a text twice, left out where it must stand, or in another one's place.
func TestPartsOfATextInAnotherOrder(t *testing.T) {
	parts := []string{"from s", "join t within 5 on a", "where (a < 3)", "group a,b", "hop 10 5", "get count as n"}
	mustParseQuery(t, "in order", strings.Join(parts, " "))
	for i := range parts {
		twice := slices.Insert(slices.Clone(parts), i, parts[i])
		mustNotParseQuery(t, "twice in a row", strings.Join(twice, " "))
		mustNotParseQuery(t, "twice", strings.Join(append(slices.Clone(parts), parts[i]), " "))
		mustNotParseQuery(t, "twice", strings.Join(append([]string{parts[i]}, parts...), " "))
		for j := range i {
			other := slices.Clone(parts)
			other[i], other[j] = other[j], other[i]
			mustNotParseQuery(t, "in another order", strings.Join(other, " "))
		}
		text := strings.Join(slices.Delete(slices.Clone(parts), i, i+1), " ")
		switch i {
		case 1, 2, 4:
			mustParseQuery(t, "left out", text)
		default:
			mustNotParseQuery(t, "left out", text)
		}
	}
	mustNotParseQuery(t, "gets without a blank", "from s get a as x,b as y")
	mustNotParseQuery(t, "gets with two blanks", "from s get a as x,  b as y")
	mustNotParseQuery(t, "gets with a blank ahead", "from s get a as x , b as y")
	mustParseQuery(t, "gets", "from s get a as x, b as y")
}

// nearQueryText is a text of a query in which something is changed.
func nearQueryText(r *rand.Rand, text string) string {
	words := strings.Split(text, " ")
	at := r.Intn(len(words))
	piece := pick(r, "", "a", "(a", "b)", "and", "not", "get", "get a as x", "0", "07", "9999999999999999", "as", ",", "a,b", "count", "sum a", "where a", "group a", "tumble 5", "join t within 1 on a")
	switch r.Intn(7) {
	case 0:
		words[at] = piece
	case 1:
		words = slices.Insert(words, at, piece)
	case 2:
		words = slices.Delete(words, at, at+1)
	case 3:
		other := r.Intn(len(words))
		words[at], words[other] = words[other], words[at]
	case 4:
		words[at] = strings.NewReplacer("a", "b", "1", "2", "+", "*", "<", "=", "and", "or").Replace(words[at])
	default:
		place := r.Intn(len(text))
		return text[:place] + pick(r, "", " ", "(", ")", ",", "a", "0", "+", "\n") + text[place+r.Intn(2):]
	}
	return strings.Join(words, " ")
}

// P25: queries that have a text come back from it, and texts that are one of a query are the text of that.
func TestQueriesComeBackFromTheirText(t *testing.T) {
	r := rand.New(rand.NewSource(171))
	shown, hidden, right, wrong := 0, 0, 0, 0
	for range 6000 {
		q := randomQuery(r)
		text := showQueryAsTold(q)
		if text == "" {
			hidden++
			if got := impl.ShowQuery(q); got != "" {
				t.Fatalf("%+v has a text: %q", q, got)
			}
			continue
		}
		shown++
		mustShowQuery(t, "at random", q, text)
		text = nearQueryText(r, text)
		if _, ok := parseQueryAsTold(text); ok {
			right++
			mustParseQuery(t, "changed", text)
		} else {
			wrong++
			mustNotParseQuery(t, "changed", text)
		}
		if t.Failed() {
			return
		}
	}
	if shown < 2000 || hidden < 200 || right < 200 || wrong < 1000 {
		t.Error("the queries are too much alike:", shown, hidden, right, wrong)
	}
}

// Texts put together of the words that a query may have.
func TestTextsOfWordsAreQueriesOrNone(t *testing.T) {
	r := rand.New(rand.NewSource(172))
	right := 0
	for range 60000 {
		words := []string{"from", pick(r, "s", "s", "from")}
		for range r.Intn(4) {
			words = append(words, pick(r, "where a", "where (a < b)", "group a", "group a,b", "tumble 5", "hop 4 2", "session 9", "join t within 3 on a", "lookup t on a", "get"))
		}
		words = append(words, pick(r, "get", "get", "where"), pick(r, "a", "count", "sum a", "(a + 1)", "(not a)"), "as", pick(r, "x", "x", "as"))
		text := strings.Join(words, " ")
		q, ok := impl.ParseQuery(text)
		told, want := parseQueryAsTold(text)
		if ok != want || !sameQuery(q, told) {
			t.Fatalf("%q: %+v, %v, not %+v, %v", text, q, ok, told, want)
		}
		if ok {
			right++
		}
	}
	if right < 1000 {
		t.Error("the texts are too much alike:", right)
	}
}
