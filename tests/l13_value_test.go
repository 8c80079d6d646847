package tests

import (
	"fmt"
	"math"
	"math/rand"
	"reflect"
	"regexp"
	"slices"
	"strconv"
	"strings"
	"testing"

	"loop.example/g00035/impl"
)

// What an item of each kind may be, at the kind's number.
var (
	leastOfKinds = []int{0, 0, -32768, -1000000000000000, 0}
	mostOfKinds  = []int{0, 1, 32767, 1000000000000000, 0}
	letterForm   = regexp.MustCompile(`\A[ -~]{0,100}\z`)
	itemForms    = []string{"", `(?:no|yes)`, `(?:0|-?[1-9][0-9]{0,15})`, `(?:0|-?[1-9][0-9]{0,15})`, `(?:"(?:[ !#-\[\]-~]|\\["\\])*")`}
)

// plainValue is a value that is compared as a whole: no empty list is in it.
func plainValue(v impl.Value) impl.Value {
	v.Items = append([]impl.Item(nil), v.Items...)
	return v
}

func sameValue(a impl.Value, b impl.Value) bool {
	return reflect.DeepEqual(plainValue(a), plainValue(b))
}

func valueOkAsTold(v impl.Value) bool {
	if v.Kind == 0 {
		return sameValue(v, impl.Value{})
	}
	items := v.Items
	ok := inBounds(v.Kind, 1, 4) && len(items) <= 30
	if v.List {
		ok = ok && v.Num == 0 && v.Text == ""
	} else {
		ok = ok && len(items) == 0
		items = []impl.Item{{Num: v.Num, Text: v.Text}}
	}
	for _, it := range items {
		ok = ok && inBounds(it.Num, leastOfKinds[v.Kind], mostOfKinds[v.Kind]) && letterForm.MatchString(it.Text) && (v.Kind == 4 || it.Text == "")
	}
	return ok
}

func valueOfAsTold(f impl.Field, v impl.Value) bool {
	if !inBounds(f.Kind, 1, 4) || !valueOkAsTold(v) {
		return false
	}
	return v.Kind == 0 && f.Maybe || v.Kind == f.Kind && v.List == f.List
}

func itemAsTold(kind int, num int, text string) string {
	switch kind {
	case 1:
		return []string{"no", "yes"}[num]
	case 4:
		return `"` + strings.NewReplacer(`"`, `\"`, `\`, `\\`).Replace(text) + `"`
	}
	return fmt.Sprint(num)
}

func showValueAsTold(v impl.Value) string {
	switch {
	case !valueOkAsTold(v):
		return ""
	case v.Kind == 0:
		return "-"
	case !v.List:
		return itemAsTold(v.Kind, v.Num, v.Text)
	}
	texts := []string{}
	for _, it := range v.Items {
		texts = append(texts, itemAsTold(v.Kind, it.Num, it.Text))
	}
	return "[" + strings.Join(texts, ",") + "]"
}

func readItemAsTold(kind int, text string) impl.Item {
	switch kind {
	case 1:
		return impl.Item{Num: len(text) - 2}
	case 4:
		return impl.Item{Text: strings.NewReplacer(`\"`, `"`, `\\`, `\`).Replace(text[1 : len(text)-1])}
	}
	n, _ := strconv.Atoi(text)
	return impl.Item{Num: n}
}

func readValueAsTold(f impl.Field, text string) (impl.Value, bool) {
	if !inBounds(f.Kind, 1, 4) {
		return impl.Value{}, false
	}
	if text == "-" {
		return impl.Value{}, f.Maybe
	}
	item := itemForms[f.Kind]
	v := impl.Value{Kind: f.Kind, List: f.List}
	form := `\A` + item + `\z`
	if f.List {
		form = `\A\[(?:` + item + `(?:,` + item + `)*)?\]\z`
	}
	if !regexp.MustCompile(form).MatchString(text) {
		return impl.Value{}, false
	}
	if f.List {
		for _, one := range regexp.MustCompile(item).FindAllString(text[1:len(text)-1], -1) {
			v.Items = append(v.Items, readItemAsTold(f.Kind, one))
		}
	} else {
		it := readItemAsTold(f.Kind, text)
		v.Num, v.Text = it.Num, it.Text
	}
	if !valueOkAsTold(v) {
		return impl.Value{}, false
	}
	return v, true
}

func flag(num int) impl.Value    { return impl.Value{Kind: impl.KindFlag, Num: num} }
func small(num int) impl.Value   { return impl.Value{Kind: impl.KindSmall, Num: num} }
func number(num int) impl.Value  { return impl.Value{Kind: impl.KindInt, Num: num} }
func texted(s string) impl.Value { return impl.Value{Kind: impl.KindText, Text: s} }
func items(n ...int) []impl.Item { return itemsOf(impl.Item{}, n...) }
func words(s ...string) []impl.Item {
	list := []impl.Item{}
	for _, text := range s {
		list = append(list, impl.Item{Text: text})
	}
	return list
}

func itemsOf(like impl.Item, numbers ...int) []impl.Item {
	list := []impl.Item{}
	for _, n := range numbers {
		like.Num = n
		list = append(list, like)
	}
	return list
}

func listOf(kind int, list []impl.Item) impl.Value {
	return impl.Value{Kind: kind, List: true, Items: list}
}

// goodValues are all right, badValues all are not.
func goodValues() map[string]impl.Value {
	return map[string]impl.Value{
		"missing": {}, "missing, with an empty list": {Items: []impl.Item{}},
		"no": flag(0), "yes": flag(1),
		"the least small": small(-32768), "the greatest small": small(32767), "a small of 0": small(0), "a small below 0": small(-1),
		"the least int": number(-1000000000000000), "the greatest int": number(1000000000000000), "an int of 0": number(0), "an int": number(-70000),
		"an empty text": texted(""), "a text": texted("a b"), "the longest text": texted(strings.Repeat("~", 100)), "the least byte": texted(" "), "the greatest byte": texted("~"),
		"a quote": texted(`"`), "a stroke": texted(`\`), "quotes and strokes": texted(`\"a\\"`), "a list's marks": texted(`[,]`), "a mark of what is missing": texted("-"), "the mark of Fixed": texted("a = b"),
		"an empty list of flags": listOf(1, nil), "one flag": listOf(1, items(1)), "one text": listOf(4, words("a")), "flags": listOf(1, items(0, 1, 0)), "smalls": listOf(2, items(-32768, 32767)), "ints": listOf(3, items(-1000000000000000, 0, 1000000000000000)),
		"texts": listOf(4, words("", "a", `,"`, `]\`, "-")), "an empty list of texts": listOf(4, []impl.Item{}),
		"as many items as may be": listOf(2, items(make([]int, 30)...)), "as many texts": listOf(4, slices.Repeat(words(strings.Repeat(`"`, 100)), 30)),
	}
}

func badValues() map[string]impl.Value {
	return map[string]impl.Value{
		"a Kind below 0": {Kind: -1}, "a Kind of 5": {Kind: 5}, "the least Kind": {Kind: math.MinInt}, "the greatest Kind": {Kind: math.MaxInt}, "a list of Kind 5": {Kind: 5, List: true},
		"missing, with a Num": {Num: 1}, "missing, with a Text": {Text: "a"}, "missing, with List": {List: true}, "missing, with Items": {Items: items(0)}, "missing, a list": {List: true, Items: items(0)},
		"a flag of 2": flag(2), "a flag of -1": flag(-1), "the greatest flag": flag(math.MaxInt),
		"a small too small": small(-32769), "a small too great": small(32768), "an int too small": number(-1000000000000001), "an int too great": number(1000000000000001), "the least of all": number(math.MinInt), "the greatest of all": number(math.MaxInt),
		"a flag with a Text": {Kind: 1, Text: "a"}, "a small with a Text": {Kind: 2, Text: "a"}, "an int with a Text": {Kind: 3, Text: "a"}, "a text with a Num": {Kind: 4, Num: 1, Text: "a"},
		"a text too long": texted(strings.Repeat("a", 101)), "a byte too small": texted("a\x1f"), "a byte too great": texted("\x7fa"), "a line end": texted("a\nb"), "a nought": texted("\x00"), "a byte beyond": texted("\x80"), "the greatest of bytes": texted("a\xff"), "a wide letter": texted("é"),
		"a flag with Items": {Kind: 1, Items: items(0)}, "a small with Items": {Kind: 2, Items: items(1)}, "a text with Items": {Kind: 4, Text: "a", Items: words("a")},
		"a list with a Num": {Kind: 2, List: true, Num: 1}, "a list with a Text": {Kind: 4, List: true, Text: "a"}, "a list of flags, one too great": listOf(1, items(0, 1, 2)), "smalls, one too small": listOf(2, items(1, -32769, 1)),
		"ints, one too great": listOf(3, items(1000000000000001)), "ints, one with a Text": listOf(3, itemsOf(impl.Item{Text: "a"}, 0)), "texts, one too long": listOf(4, words("a", strings.Repeat("a", 101))), "texts, one with a byte that may not": listOf(4, words("a", "\t")),
		"texts, one with a Num": listOf(4, itemsOf(impl.Item{Text: "a"}, 0, 1)), "one item too many": listOf(2, items(make([]int, 31)...)), "many items too many": listOf(1, items(make([]int, 1000)...)), "one text too many": listOf(4, slices.Repeat(words("a"), 31)),
	}
}

func TestValuesThatAreOnes(t *testing.T) {
	for name, v := range goodValues() {
		f := impl.Field{Kind: max(v.Kind, 1), List: v.List, Maybe: v.Kind == 0}
		text := showValueAsTold(v)
		if !impl.ValueOk(v) || !impl.ValueOf(f, v) || text == "" {
			t.Errorf("%s: %+v is a value", name, v)
		}
		if got := impl.ShowValue(v); got != text {
			t.Errorf("%s: %q, not %q", name, got, text)
		}
		if again, ok := impl.ReadValue(f, text); !ok || !sameValue(again, v) {
			t.Errorf("%s: %q comes back as %+v, %v", name, text, again, ok)
		}
	}
	for name, v := range badValues() {
		f := impl.Field{Kind: v.Kind, List: v.List, Maybe: true}
		if impl.ValueOk(v) || impl.ValueOf(f, v) || impl.ShowValue(v) != "" || valueOkAsTold(v) {
			t.Errorf("%s: %+v is no value", name, v)
		}
	}
}

func TestValueOfEachField(t *testing.T) {
	for name, v := range goodValues() {
		for _, kind := range []int{math.MinInt, -1, 0, 1, 2, 3, 4, 5, math.MaxInt} {
			for i := range 4 {
				f := impl.Field{Name: "\x00", Kind: kind, List: i%2 == 1, Maybe: i/2 == 1, Was: []string{""}, Fixed: true, Value: flag(7)}
				if want := valueOfAsTold(f, v); impl.ValueOf(f, v) != want {
					t.Errorf("%s of the kind %d, %v, %v: not %v", name, kind, f.List, f.Maybe, want)
				}
				text := showValueAsTold(v)
				want, ok := readValueAsTold(f, text)
				if got, same := impl.ReadValue(f, text); same != ok || !sameValue(got, want) {
					t.Errorf("%q as of the kind %d, %v, %v: %+v, %v", text, kind, f.List, f.Maybe, got, same)
				}
			}
		}
	}
}

// textsOfNoValue has for each kind, and for lists of it at 4 more, texts that are none of its.
func textsOfNoValue() [][]string {
	numbers := []string{"+1", "01", "-0", "00", "--1", "1-", "1 ", " 1", "1.0", "1e3", "0x1", "1_0", "a", "no", "\"1\"", "[1]", "\u0661", "99999999999999999999", "-99999999999999999999", "9223372036854775808", "18446744073709551617"}
	lists := []string{"[", "]", "[]]", "[[]", "[[]]", "[,]", "[ ]", " []", "[] ", "[-]", "[]-"}
	return [][]string{
		{},
		{"", " no", "no ", "No", "NO", "yes ", "Yes", "y", "n", "true", "false", "0", "1", "noyes", "no,yes", "\"no\"", "[no]", "yesno", "ye"},
		append([]string{"", "32768", "-32769", "70000", "1,2"}, numbers...),
		append([]string{"", "1000000000000001", "-1000000000000001", "1,2"}, numbers...),
		{"", `"`, `a`, `"a`, `a"`, `"a"b`, `"a" `, ` "a"`, `"a"b"`, `"""`, `"\"`, `"\a"`, `"\n"`, `"\x41"`, `"a\`, `"\\\"`, "\"\n\"", "\"\t\"", "\"\x7f\"", "\"\x80\"", `"` + strings.Repeat("a", 101) + `"`, `'a'`, "`a`", `"a","b"`, `["a"]`, `""""`, `\"a\"`},
		append([]string{"", "no", "[no", "no]", "[no,]", "[,no]", "[no,,yes]", "[no, yes]", "[no yes]", "[no]]", "[nono]", "[no;yes]", "[0]", "[\"no\"]", "[" + strings.Repeat("no,", 30) + "no]"}, lists...),
		append([]string{"", "1", "[1", "1]", "[1,]", "[,1]", "[1,,2]", "[1, 2]", "[1 ,2]", "[ 1,2]", "[1,2 ]", "[1 2]", "[1]]", "[1][2]", "[1];", "[+1]", "[01]", "[-0]", "[1,-0]", "[32768]", "[1,-32769]", "[\"1\"]", "[1.0]", "[" + strings.Repeat("1,", 30) + "1]"}, lists...),
		append([]string{"", "1", "[1", "[1,]", "[,1]", "[1,,2]", "[1, 2]", "[+1]", "[01]", "[-0]", "[1000000000000001]", "[--1]", "[1-1]", "[" + strings.Repeat("1,", 30) + "1]"}, lists...),
		append([]string{"", `"a"`, `["a"`, `"a"]`, `["a",]`, `[,"a"]`, `["a",,"b"]`, `["a", "b"]`, `["a" "b"]`, `["a""b"]`, `[a]`, `["a]`, `["a"]]`, `["\a"]`, `["a\"]`, "[\"\n\"]", `["` + strings.Repeat("a", 101) + `"]`, `[` + strings.Repeat(`"",`, 30) + `""]`}, lists...),
	}
}

func TestTextsOfNoValue(t *testing.T) {
	for i, texts := range textsOfNoValue() {
		f := impl.Field{Kind: i, List: i > 4, Maybe: true}
		if f.List {
			f.Kind -= 4
		}
		for _, text := range append(slices.Clone(texts), "--", "- ", " -", "-,-", "[-", "nil", "\x00", "\xff") {
			if v, ok := impl.ReadValue(f, text); ok || !sameValue(v, impl.Value{}) {
				t.Errorf("%q as of the kind %d, list %v: %+v, %v", text, f.Kind, f.List, v, ok)
			}
		}
		if _, ok := impl.ReadValue(f, "-"); ok != (i > 0) {
			t.Errorf("what is missing, of the kind %d, list %v: %v", f.Kind, f.List, ok)
		}
		f.Maybe = false
		if _, ok := impl.ReadValue(f, "-"); ok {
			t.Errorf("what may not be missing, of the kind %d, list %v", f.Kind, f.List)
		}
	}
	for _, kind := range []int{math.MinInt, -1, 0, 5, math.MaxInt} {
		for _, text := range []string{"", "-", "no", "1", `"a"`, "[]", "[1]"} {
			for i := range 4 {
				if v, ok := impl.ReadValue(impl.Field{Kind: kind, List: i%2 == 1, Maybe: i/2 == 1}, text); ok || !sameValue(v, impl.Value{}) {
					t.Errorf("%q as of the kind %d: %+v, %v", text, kind, v, ok)
				}
			}
		}
	}
}

func randomLetters(r *rand.Rand) string {
	letters := make([]byte, pick(r, 0, 1, 2, 3, 5, 8, pick(r, 99, 100, r.Intn(101))))
	for i := range letters {
		letters[i] = pick(r, 'a', '"', '\\', ',', ']', '[', ' ', '=', '-', byte(32+r.Intn(95)))
	}
	return string(letters)
}

func randomItem(r *rand.Rand, kind int) impl.Item {
	if kind == impl.KindText {
		return impl.Item{Text: randomLetters(r)}
	}
	least, most := leastOfKinds[kind], mostOfKinds[kind]
	return impl.Item{Num: min(max(pick(r, least, most, 0, 1, -1, r.Intn(200)-100, least+r.Intn(most-least+1)), least), most)}
}

// randomValue is always one of the field.
func randomValue(r *rand.Rand, f impl.Field) impl.Value {
	if f.Maybe && r.Intn(3) == 0 {
		return impl.Value{}
	}
	v := impl.Value{Kind: f.Kind, List: f.List}
	if !f.List {
		it := randomItem(r, f.Kind)
		v.Num, v.Text = it.Num, it.Text
		return v
	}
	for range pick(r, 0, 1, 2, 3, 4, pick(r, 29, 30, 3)) {
		v.Items = append(v.Items, randomItem(r, f.Kind))
	}
	return v
}

func randomField(r *rand.Rand, name string) impl.Field {
	return impl.Field{Name: name, Kind: 1 + r.Intn(4), List: r.Intn(3) == 0, Maybe: r.Intn(3) == 0}
}

// spoilValue makes a value another one, which may be one still.
func spoilValue(r *rand.Rand, v impl.Value) impl.Value {
	v = plainValue(v)
	switch r.Intn(6) {
	case 0:
		v.Kind = pick(r, -1, 0, 1, 2, 3, 4, 5)
	case 1:
		v.Num = pick(r, 1, -1, 2, 32767, 32768, -32768, -32769, 1000000000000000, 1000000000000001, -1000000000000001, math.MinInt)
	case 2:
		v.Text = pick(r, "a", strings.Repeat("a", 100), strings.Repeat("a", 101), "\x1f", " ", "~", "\x7f", "\xff")
	case 3:
		v.List = !v.List
	case 4:
		v.Items = append(v.Items, pick(r, impl.Item{}, impl.Item{Num: 2}, impl.Item{Num: 32768}, impl.Item{Text: "a"}, impl.Item{Text: "\n"}, impl.Item{Num: 1, Text: "a"}))
	default:
		v.Items = append(v.Items, make([]impl.Item, pick(r, 1, 29, 30, 31))...)
	}
	return v
}

func TestValuesAreAsTold(t *testing.T) {
	r := rand.New(rand.NewSource(145))
	good, bad := 0, 0
	for range 20000 {
		f := randomField(r, "f")
		v := randomValue(r, f)
		for range r.Intn(3) {
			v = spoilValue(r, v)
		}
		other := randomField(r, "f")
		if impl.ValueOk(v) != valueOkAsTold(v) || impl.ValueOf(f, v) != valueOfAsTold(f, v) || impl.ValueOf(other, v) != valueOfAsTold(other, v) {
			t.Fatalf("%+v: %v; of %+v: %v", v, impl.ValueOk(v), f, impl.ValueOf(f, v))
		}
		text := impl.ShowValue(v)
		if text != showValueAsTold(v) {
			t.Fatalf("%+v: %q, not %q", v, text, showValueAsTold(v))
		}
		if again, ok := impl.ReadValue(f, text); valueOfAsTold(f, v) {
			good++
			if !ok || !sameValue(again, v) {
				t.Fatalf("%+v: %q comes back as %+v, %v", v, text, again, ok)
			}
		} else {
			bad++
		}
	}
	if good < 5000 || bad < 5000 {
		t.Error("the values to try are too much alike:", good, bad)
	}
}

func TestReadValueIsAsTold(t *testing.T) {
	r := rand.New(rand.NewSource(146))
	read, not := 0, 0
	for range 20000 {
		f := randomField(r, "f")
		text := showValueAsTold(randomValue(r, f))
		for range r.Intn(3) {
			at := r.Intn(len(text) + 1)
			end := min(at+r.Intn(3), len(text))
			text = text[:at] + pick(r, "", "", "0", "1", "-", "+", ",", " ", "[", "]", `"`, `\`, "no", "yes", "a", "\n", "\xff") + text[end:]
		}
		want, ok := readValueAsTold(f, text)
		if v, same := impl.ReadValue(f, text); same != ok || !sameValue(v, want) {
			t.Fatalf("%q of %+v: %+v, %v, not %+v, %v", text, f, v, same, want, ok)
		}
		if !ok {
			not++
			continue
		}
		read++
		if again := impl.ShowValue(want); again != text {
			t.Fatalf("%q is not %q", again, text)
		}
	}
	if read < 5000 || not < 3000 {
		t.Error("the texts to try are too much alike:", read, not)
	}
}
