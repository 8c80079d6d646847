package tests

import (
	"fmt"
	"math"
	"math/rand"
	"reflect"
	"regexp"
	"slices"
	"strconv"
	"strings"
	"testing"

	"loop.example/g00035/impl"
)

func TestCommit(t *testing.T) {
	most := strings.Repeat("z", 20)
	for _, x := range []struct {
		group  string
		slot   impl.Slot
		offset int
		time   int
		key    string
		value  string
	}{
		{"g", impl.Slot{Topic: "a", Part: 10}, 77, 5, "g/a/10", "77"},
		{"g", impl.Slot{Topic: "a"}, 0, 0, "g/a/0", "0"},
		{"g_1", impl.Slot{Topic: "T_2", Part: 9}, 10, 1, "g_1/T_2/9", "10"},
		{most, impl.Slot{Topic: most, Part: 49}, impl.MaxOffset, impl.MaxTime, most + "/" + most + "/49", "1000000000"},
		{"a", impl.Slot{Topic: "a", Part: 1}, impl.MaxOffset - 1, impl.MaxTime - 1, "a/a/1", "999999999"},
	} {
		r, ok := impl.Commit(x.group, x.slot, x.offset, x.time)
		want := impl.Record{Time: x.time, Keyed: true, Key: x.key, Value: x.value}
		r.Heads = append([]impl.Head(nil), r.Heads...)
		if !ok || !reflect.DeepEqual(r, want) || !impl.RecordOk(r) {
			t.Errorf("%+v: %+v %v", x, r, ok)
		}
	}
}

func mustNotCommit(t *testing.T, group string, s impl.Slot, offset int, time int) {
	t.Helper()
	r, ok := impl.Commit(group, s, offset, time)
	r.Heads = append([]impl.Head(nil), r.Heads...)
	if ok || !reflect.DeepEqual(r, impl.Record{}) {
		t.Errorf("%q %+v %d %d: %+v %v", group, s, offset, time, r, ok)
	}
}

func TestCommitsThatAreNone(t *testing.T) {
	good := impl.Slot{Topic: "a", Part: 3}
	for _, name := range append(slices.Clone(noNames), "g/a", "/", "g/") {
		mustNotCommit(t, name, good, 5, 5)
		mustNotCommit(t, "g", impl.Slot{Topic: name, Part: 3}, 5, 5)
	}
	for _, part := range []int{-1, 50, 51, math.MinInt, math.MaxInt} {
		mustNotCommit(t, "g", impl.Slot{Topic: "a", Part: part}, 5, 5)
	}
	for _, offset := range []int{-1, impl.MaxOffset + 1, math.MinInt, math.MaxInt} {
		mustNotCommit(t, "g", good, offset, 5)
	}
	for _, time := range []int{-1, impl.MaxTime + 1, math.MinInt, math.MaxInt} {
		mustNotCommit(t, "g", good, 5, time)
	}
}

var (
	offsetKey   = regexp.MustCompile(`\A([a-zA-Z][a-zA-Z0-9_]{0,19})/([a-zA-Z][a-zA-Z0-9_]{0,19})/(0|[1-4]?[1-9]|[1-4]0)\z`)
	offsetValue = regexp.MustCompile(`\A(0|[1-9][0-9]{0,8}|1000000000)\z`)
)

func committedAsTold(l impl.Log, group string) []impl.Pos {
	list := []impl.Pos{}
	for _, pair := range viewAsTold(l) {
		words := offsetKey.FindStringSubmatch(pair.Key)
		if words == nil || words[1] != group || !offsetValue.MatchString(pair.Value) {
			continue
		}
		part, _ := strconv.Atoi(words[3])
		offset, _ := strconv.Atoi(pair.Value)
		list = append(list, impl.Pos{Slot: impl.Slot{Topic: words[2], Part: part}, Offset: offset})
	}
	slices.SortFunc(list, func(a, b impl.Pos) int {
		if slotAhead(a.Slot, b.Slot) {
			return -1
		}
		return 1
	})
	return list
}

// posText tells positions as slots with their offsets: "a0=5 b12=0".
func posText(list []impl.Pos) string {
	words := []string{}
	for _, x := range list {
		words = append(words, fmt.Sprintf("%s%d=%d", x.Slot.Topic, x.Slot.Part, x.Offset))
	}
	return strings.Join(words, " ")
}

func mustCommitted(t *testing.T, name string, l impl.Log, group string, want string) {
	t.Helper()
	if got := posText(impl.Committed(l, group)); got != want {
		t.Errorf("%s, %s: %q, not %q", name, group, got, want)
	}
	if told := posText(committedAsTold(l, group)); told != want {
		t.Errorf("%s, %s, as told: %q, not %q", name, group, told, want)
	}
}

// pairLog has a record for each Key and Value, by turns.
func pairLog(texts ...string) impl.Log {
	list := []impl.Record{}
	for i := 0; i < len(texts); i += 2 {
		list = append(list, impl.Record{Keyed: true, Key: texts[i], Value: texts[i+1]})
	}
	return oneByOne(list...)
}

func TestCommitted(t *testing.T) {
	empty := impl.NewLog(0, 500)
	mustCommitted(t, "an empty log", empty, "g", "")
	l := pairLog("g/a/1", "5", "g/a/0", "7", "g/b/3", "0", "g/a/1", "4")
	mustCommitted(t, "the last counts, even if it is less", l, "g", "a0=7 a1=4 b3=0")
	mustCommitted(t, "another group", l, "h", "")
	mustCommitted(t, "by Topic, then by Part", pairLog("g/b/2", "1", "g/a/10", "2", "g/a/9", "3", "g/b/11", "4", "g/a/49", "5", "g/a/1", "6"), "g", "a1=6 a9=3 a10=2 a49=5 b2=1 b11=4")
	mustCommitted(t, "Topics by their bytes", pairLog("g/b/0", "1", "g/a_/0", "2", "g/a/0", "3", "g/a1/0", "4", "g/Z/0", "5", "g/aB/0", "6"), "g", "Z0=5 a0=3 a10=4 aB0=6 a_0=2 b0=1")
	long := strings.Repeat("z", 20)
	mustCommitted(t, "the limits", pairLog("g/"+long+"/49", "1000000000", "g/a/0", "0"), "g", "a0=0 "+long+"49=1000000000")
	mustCommitted(t, "a long group", pairLog(long+"/a/0", "7"), long, "a0=7")
	several := pairLog("g/a/1", "1", "gg/a/1", "2", "g1/a/1", "3", "G/a/1", "4", "g/a/2", "5", "a/g/1", "6", "g/g/1", "7")
	mustCommitted(t, "several", several, "g", "a1=1 a2=5 g1=7")
	mustCommitted(t, "several", several, "gg", "a1=2")
	mustCommitted(t, "several", several, "g1", "a1=3")
	mustCommitted(t, "several", several, "G", "a1=4")
	mustCommitted(t, "several", several, "a", "g1=6")
}

func TestCommittedPassesOverWhatIsNotSo(t *testing.T) {
	keys := []string{"", "g", "g/", "g/a", "g/a/", "/a/1", "g//1", "g/a/1/", "/g/a/1", "g/a/1/2", "g/a/b/1", "g/g/a/1", "g a 1", "g/a 1", "g-a-1", "g/a/ 1", "g/a/1 ", " g/a/1", "g/a/1\n", "g/a/\x00",
		"g/a/+1", "g/a/-1", "g/a/-0", "g/a/01", "g/a/00", "g/a/50", "g/a/051", "g/a/100", "g/a/0x1", "g/a/1_0", "g/a/1.0", "g/a/1e1", "g/a/x", "g/a/٣", "g/a/99999999999999999999", "g/a/18446744073709551617",
		"g/1a/1", "g/_a/1", "g/a-b/1", "g/a b/1", "g/é/1", "g/" + strings.Repeat("z", 21) + "/1", "h/a/1", "gg/a/1", "G/a/1", "g_/a/1"}
	for _, key := range keys {
		mustCommitted(t, fmt.Sprintf("the Key %q", key), pairLog(key, "5", "g/b/7", "8"), "g", "b7=8")
	}
	values := []string{"", " ", "-", "+", "+5", "-5", "-0", "05", "00", "5 ", " 5", "5\n", "\x005", "1000000001", "9999999999", "01000000000", "99999999999999999999", "18446744073709551621", "0x5", "5_0", "5.0", "5e0", "x", "٣"}
	for _, value := range values {
		l := pairLog("g/a/1", value, "g/b/7", "8")
		mustCommitted(t, fmt.Sprintf("the Value %q", value), l, "g", "b7=8")
		// What a slot said ahead of it is no more said.
		mustCommitted(t, fmt.Sprintf("the Value %q behind another", value), pairLog("g/a/1", "4", "g/a/1", value), "g", "")
		mustCommitted(t, fmt.Sprintf("the Value %q ahead of another", value), pairLog("g/a/1", value, "g/a/1", "4"), "g", "a1=4")
	}
}

func TestCommittedOfOtherRecords(t *testing.T) {
	pos := func(key string, value string) impl.Record {
		return impl.Record{Keyed: true, Key: key, Value: value}
	}
	unkeyed := impl.Record{Value: "5"}
	lost := impl.Record{Keyed: true, Key: "g/a/1", Gone: true}
	mustCommitted(t, "without a Key", oneByOne(unkeyed, pos("g/b/1", "2"), unkeyed), "g", "b1=2")
	mustCommitted(t, "without a Value", oneByOne(pos("g/a/1", "5"), pos("g/b/1", "2"), lost), "g", "b1=2")
	mustCommitted(t, "again behind it", oneByOne(pos("g/a/1", "5"), lost, pos("g/a/1", "3")), "g", "a1=3")
	mustCommitted(t, "in one batch", together(pos("g/a/1", "5"), pos("g/a/1", "6"), pos("h/a/1", "7")), "g", "a1=6")
	heads := pos("g/a/1", "5")
	heads.Heads, heads.Time = []impl.Head{{Key: "k", Value: "v"}}, 99
	mustCommitted(t, "with Heads", oneByOne(heads), "g", "a1=5")
	mustCommitted(t, "from Start on", from(1, oneByOne(pos("g/a/1", "5"), pos("g/a/2", "6"))), "g", "a2=6")
	mustCommitted(t, "from Start on, the same slot", from(1, oneByOne(pos("g/a/1", "5"), pos("g/a/1", "6"))), "g", "a1=6")
	mustCommitted(t, "nothing from Start on", from(2, oneByOne(pos("g/a/1", "5"), pos("g/a/1", "6"))), "g", "")
	mustCommitted(t, "markers", journal(told(0, pos("g/a/1", "5")), markerAt(1)), "g", "a1=5")
}

func TestCommittedOfWhatIsNotRight(t *testing.T) {
	l := pairLog("g/a/1", "5")
	bad := l
	bad.Next = 0
	for name, x := range map[string]impl.Log{"Next ahead of the batches": bad, "the zero value": {}, "no Roll": {Segments: l.Segments, Next: 1}} {
		if impl.LogOk(x) || len(impl.Committed(x, "g")) != 0 {
			t.Errorf("%s: %+v", name, impl.Committed(x, "g"))
		}
	}
	for _, group := range append(slices.Clone(noNames), "g/a", "g/", "/", "*") {
		x := pairLog(group+"/a/1", "5", "g/a/1", "5", "g/a/a/1", "5", "/a/1", "5")
		mustCommitted(t, "no name", x, group, "")
	}
}

// A clerk commits offsets of several groups and slots, in an order at random, and knows the last one of each.
type clerk struct {
	r    *rand.Rand
	log  impl.Log
	last map[string]map[impl.Slot]int
}

var clerksGroups = []string{"G", "g", "g1", "g_", "gg", "h"}

// commit puts some commits into one batch, with other records among them; false when the log takes no more.
func (c *clerk) commit(t *testing.T) bool {
	t.Helper()
	b := impl.Batch{Producer: -1}
	said := map[string]map[impl.Slot]int{}
	for range 1 + c.r.Intn(5) {
		group := pick(c.r, clerksGroups...)
		s := impl.Slot{Topic: pick(c.r, "B", "a", "a1", "a_", "b"), Part: pick(c.r, 0, 1, 2, 9, 10, 11, 49)}
		offset := pick(c.r, 0, 1, 9, 10, c.r.Intn(1000), impl.MaxOffset)
		x, ok := impl.Commit(group, s, offset, c.r.Intn(100))
		if !ok {
			t.Fatalf("%s %+v %d is not taken", group, s, offset)
		}
		if said[group] == nil {
			said[group] = map[impl.Slot]int{}
		}
		said[group][s] = offset
		b.Records = append(b.Records, x)
		if c.r.Intn(4) == 0 {
			b.Records = append(b.Records, pick(c.r, impl.Record{Value: "5"}, impl.Record{Keyed: true, Key: group, Value: "5"}, impl.Record{Keyed: true, Key: x.Key + "/", Value: x.Value}))
		}
	}
	l, code := impl.Append(c.log, b)
	if code != impl.LogOkay {
		return false
	}
	c.log = l
	for group, slots := range said {
		if c.last[group] == nil {
			c.last[group] = map[impl.Slot]int{}
		}
		for s, offset := range slots {
			c.last[group][s] = offset
		}
	}
	return true
}

// mustKnow: the log tells of each group just the last offset of each slot, in order of slots.
func (c *clerk) mustKnow(t *testing.T, name string, l impl.Log) int {
	t.Helper()
	count := 0
	for _, group := range append([]string{"k"}, clerksGroups...) {
		list := impl.Committed(l, group)
		if len(list) != len(c.last[group]) {
			t.Fatalf("%s, %s: %s, not %v", name, group, posText(list), c.last[group])
		}
		for i, x := range list {
			if offset, known := c.last[group][x.Slot]; !known || offset != x.Offset || i > 0 && !slotAhead(list[i-1].Slot, x.Slot) {
				t.Fatalf("%s, %s: %s, not %v", name, group, posText(list), c.last[group])
			}
			count++
		}
	}
	return count
}

// Promise 20.
func TestCommittedTellsTheLastOffsets(t *testing.T) {
	r := rand.New(rand.NewSource(126))
	went, known := 0, 0
	for range 40 {
		c := &clerk{r: r, log: impl.NewLog(pick(r, 0, 7), pick(r, 100, 400, 2000, impl.MaxRoll)), last: map[string]map[impl.Slot]int{}}
		for step := range 60 {
			if !c.commit(t) {
				break
			}
			if step%7 != 0 {
				continue
			}
			known += c.mustKnow(t, "as it is", c.log)
			to := pick(r, c.log.Next, c.log.Start+r.Intn(c.log.Next-c.log.Start+1))
			short, ok := impl.Compact(c.log, to, pick(r, 0, 50, impl.MaxTime), pick(r, 0, 20))
			if !ok {
				t.Fatal("it is not compacted")
			}
			c.mustKnow(t, "compacted", short)
			c.mustKnow(t, "joined", impl.Join(short))
			_, going := impl.Dirt(c.log, to, 0, 0)
			went += going
			if r.Intn(3) == 0 {
				// It goes on from the compacted log.
				c.log = short
			}
		}
	}
	if went < 3000 || known < 10000 {
		t.Error("what is tried is too much alike:", went, known)
	}
}

func TestCommittedIsAsTold(t *testing.T) {
	r := rand.New(rand.NewSource(127))
	found, nothing := 0, 0
	for range 1500 {
		l := keyLog(r)
		for i := range l.Segments {
			for j := range l.Segments[i].Batches {
				b := &l.Segments[i].Batches[j]
				for k := range b.Records {
					if x := &b.Records[k]; b.Flags < impl.FlagMark && x.Keyed {
						x.Key = pick(r, "g", "g", "gg", "h", "g/a") + "/" + pick(r, "a", "a", "b", "a1", "1", "") + "/" + pick(r, "0", "1", "2", "10", "01", "49", "50", "-1")
						if !x.Gone {
							x.Value = pick(r, "0", "1", "5", "77", "1000000000", "1000000001", "", "+1", "01")
						}
					}
				}
			}
		}
		if r.Intn(10) == 0 {
			spoilLog(r, &l)
		}
		for _, group := range []string{"g", "gg", "h", "g/a", "a", ""} {
			list := impl.Committed(l, group)
			if want := committedAsTold(l, group); !slices.Equal(list, want) {
				t.Fatalf("%s: %s, not %s: %+v", group, posText(list), posText(want), l)
			}
			if len(list) > 0 {
				found++
			} else {
				nothing++
			}
		}
	}
	if found < 1000 || nothing < 1000 {
		t.Error("the logs to try are too much alike:", found, nothing)
	}
}
