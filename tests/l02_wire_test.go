package tests

import (
	"bytes"
	"math"
	"math/rand"
	"reflect"
	"slices"
	"strings"
	"testing"

	"loop.example/g00035/impl"
)

// withCheck puts behind bytes the four that tell their Check.
func withCheck(b []byte) []byte {
	c := checkAsTold(b)
	return append(bytes.Clone(b), byte(c/(1<<24)), byte(c/(1<<16)%256), byte(c/256%256), byte(c%256))
}

func bodyAsTold(list []impl.Record, version int) []byte {
	body := groupsAsTold(len(list))
	text := func(there bool, s string) {
		if there {
			body = append(append(body, groupsAsTold(len(s))...), s...)
		} else {
			body = append(body, groupsAsTold(-1)...)
		}
	}
	ahead := 0
	for _, x := range list {
		body = append(body, groupsAsTold(x.Time-ahead)...)
		ahead = x.Time
		text(x.Keyed, x.Key)
		text(!x.Gone, x.Value)
		if version == 2 {
			body = append(body, groupsAsTold(len(x.Heads))...)
			for _, h := range x.Heads {
				body = append(body, numbers(len(h.Key), len(h.Value), h.Key, h.Value)...)
			}
		}
	}
	return body
}

// wire is bytes with a right Check, of any head and any body, whether or not a batch may have them.
func wire(version int, head []int, body []byte) []byte {
	out := []byte{77, byte(version)}
	for _, n := range append(slices.Clone(head), len(body)) {
		out = append(out, groupsAsTold(n)...)
	}
	return withCheck(append(out, body...))
}

// writeAsTold is the document's rule; what isn't a batch, or has no place in the version, is nothing.
func writeAsTold(b impl.Batch, version int) []byte {
	if !batchOkAsTold(b) || version < 1 || version > 2 {
		return nil
	}
	headed := slices.ContainsFunc(b.Records, func(x impl.Record) bool { return len(x.Heads) > 0 })
	if version == 1 && (b.Producer != -1 || headed) {
		return nil
	}
	body := bodyAsTold(b.Records, version)
	if b.Flags%2 == 1 {
		body = squeezeAsTold(body)
	}
	if version == 1 {
		return wire(1, []int{b.Base, b.Epoch, b.Flags}, body)
	}
	return wire(2, []int{b.Base, b.Epoch, b.Producer, b.Turn, b.Seq, b.Flags}, body)
}

// sameBatch holds two batches against each other; an empty list and nil are the same.
func sameBatch(a impl.Batch, b impl.Batch) bool {
	return reflect.DeepEqual(plainLists(a), plainLists(b))
}

func plainLists(b impl.Batch) impl.Batch {
	b.Records = append([]impl.Record{}, b.Records...)
	for i, x := range b.Records {
		b.Records[i].Heads = append([]impl.Head{}, x.Heads...)
	}
	return b
}

// oldForm is a batch as version 1 may hold it.
func oldForm(b impl.Batch) impl.Batch {
	b = plainLists(b)
	b.Producer, b.Turn, b.Seq, b.Flags = -1, 0, 0, b.Flags%2
	for i := range b.Records {
		b.Records[i].Heads = nil
	}
	return b
}

func TestWriteBatchByteByByte(t *testing.T) {
	list := []impl.Record{{Time: 7, Keyed: true, Key: "k", Value: "v"}, {Time: 6, Gone: true}, {Time: 70, Keyed: true, Heads: []impl.Head{{Key: "h", Value: ""}, {Key: "ij", Value: "w"}}}}
	b := impl.Batch{Base: 5, Epoch: 2, Producer: 9, Turn: 1, Seq: 64, Flags: impl.FlagOpen, Records: list}
	full := "M\x02\x0a\x04\x12\x02\x80\x01\x04\x30" + "\x06" + "\x0e\x02k\x02v\x00" + "\x01\x01\x01\x00" + "\x80\x01\x00\x00\x04\x02\x00h\x04\x02ijw"
	old := "M\x01\x0a\x04\x00\x14" + "\x04" + "\x0e\x02k\x02v" + "\x80\x01\x00\x01"
	zeros := "\x02\x00\x00\xc8\x01" + strings.Repeat("z", 100)
	squeezed := "\x05\x02\x00\x00\xc8\x01z" + "\xbf\x00\x00" + "\x9c\x00\x00"
	cases := []struct {
		name    string
		b       impl.Batch
		version int
		want    string
	}{
		{"version 2", b, 2, full},
		{"version 1", impl.Batch{Base: 5, Epoch: 2, Producer: -1, Records: []impl.Record{list[0], {Time: 71, Keyed: true, Gone: true}}}, 1, old},
		{"no producer in version 2", impl.Batch{Producer: -1, Records: []impl.Record{{}}}, 2, "M\x02\x00\x00\x01\x00\x00\x00\x0a\x02\x00\x01\x00\x00"},
		{"a marker", impl.Batch{Flags: 6, Records: []impl.Record{{Keyed: true, Key: "abort"}}}, 2, "M\x02\x00\x00\x00\x00\x00\x0c\x14\x02\x00\x0aabort\x00\x00"},
		{"plain", impl.Batch{Producer: -1, Records: []impl.Record{{Keyed: true, Value: strings.Repeat("z", 100)}}}, 1, "M\x01\x00\x00\x00\xd2\x01" + zeros},
		{"squeezed", impl.Batch{Producer: -1, Flags: 1, Records: []impl.Record{{Keyed: true, Value: strings.Repeat("z", 100)}}}, 1, "M\x01\x00\x00\x02\x1a" + squeezed},
	}
	for _, c := range cases {
		got := impl.WriteBatch(c.b, c.version)
		if want := withCheck([]byte(c.want)); !bytes.Equal(got, want) {
			t.Errorf("%s: %x, not %x", c.name, got, want)
		}
		if x, next, code := impl.ReadBatch(got, 0); code != impl.WireOk || next != len(got) || !sameBatch(x, c.b) {
			t.Errorf("%s: read as %+v %d %d", c.name, x, next, code)
		}
	}
}

// Of one Head both numbers come first, then the bytes of its Key and those of its Value.
func TestHeadsHaveTheirNumbersAhead(t *testing.T) {
	cases := []struct {
		name string
		list []impl.Head
		want []byte
	}{
		{"none", nil, []byte{0}},
		{"one", []impl.Head{{Key: "k", Value: "vw"}}, []byte{2, 2, 4, 'k', 'v', 'w'}},
		{"an empty Value", []impl.Head{{Key: "key"}}, []byte{2, 6, 0, 'k', 'e', 'y'}},
		{"three", []impl.Head{{Key: "a", Value: "b"}, {Key: "cd"}, {Key: "e", Value: "fg"}}, []byte{6, 2, 2, 'a', 'b', 4, 0, 'c', 'd', 2, 4, 'e', 'f', 'g'}},
		{"numbers of one byte", []impl.Head{{Key: long(63), Value: long(62)}}, []byte("\x02\x7e\x7c" + long(125))},
		{"numbers of two bytes", []impl.Head{{Key: long(64), Value: long(100)}}, []byte("\x02\x80\x01\xc8\x01" + long(164))},
		{"texts like numbers", []impl.Head{{Key: "\x02\x04", Value: "\x00"}}, []byte{2, 4, 2, 2, 4, 0}},
	}
	for _, c := range cases {
		b := impl.Batch{Producer: -1, Records: []impl.Record{{Time: 5, Keyed: true, Key: "q", Heads: c.list}, {Time: 5, Value: "r", Heads: c.list}}}
		body := slices.Concat([]byte{4, 10, 2, 'q', 0}, c.want, []byte{0, 1, 2, 'r'}, c.want)
		for flags := range 2 {
			b.Flags = flags
			written := body
			if flags == impl.FlagSqueezed {
				written = squeezeAsTold(body)
			}
			data := wire(2, []int{0, 0, -1, 0, 0, flags}, written)
			if got := impl.WriteBatch(b, 2); !bytes.Equal(got, data) {
				t.Errorf("%s, Flags %d: %v, not %v", c.name, flags, got, data)
			}
			if x, next, code := impl.ReadBatch(data, 0); code != impl.WireOk || next != len(data) || !sameBatch(x, b) {
				t.Errorf("%s, Flags %d: read as %+v %d %d", c.name, flags, x, next, code)
			}
			mustReadAll(t, append(bytes.Clone(data), data...), []impl.Batch{b, b}, impl.WireOk)
		}
	}
}

// The Check is the one of all that stands ahead of it, the highest byte first.
func TestWriteBatchEndsWithTheCheck(t *testing.T) {
	got := impl.WriteBatch(impl.Batch{Producer: -1, Records: []impl.Record{{}}}, 1)
	want := "M\x01\x00\x00\x00\x08\x02\x00\x01\x00"
	if string(got[:len(got)-4]) != want {
		t.Fatalf("%x", got)
	}
	c := impl.Check([]byte(want))
	if tail := got[len(got)-4:]; c != int(tail[0])<<24+int(tail[1])<<16+int(tail[2])<<8+int(tail[3]) {
		t.Errorf("%x for %x", tail, c)
	}
}

func mustRead(t *testing.T, b impl.Batch, version int) []byte {
	t.Helper()
	data := impl.WriteBatch(b, version)
	if want := writeAsTold(b, version); !bytes.Equal(data, want) {
		t.Fatalf("version %d: %x, not %x, of %+v", version, data, want, b)
	}
	for _, around := range []string{"", "M", "M\x01", "\x00\xff", string(data), string(data[:len(data)-1])} {
		all := []byte(around + string(data) + around)
		x, next, code := impl.ReadBatch(all, len(around))
		if code != impl.WireOk || next != len(around)+len(data) || !sameBatch(x, b) {
			t.Fatalf("version %d behind %d bytes: %d %d, %+v, not %+v", version, len(around), next, code, x, b)
		}
	}
	return data
}

func TestBatchesComeBackFromTheirBytes(t *testing.T) {
	r := rand.New(rand.NewSource(22))
	for i := range 1500 {
		b := smallBatch(r)
		if i%10 == 0 {
			b = randomBatch(r)
		}
		mustRead(t, b, 2)
		mustRead(t, oldForm(b), 1)
		mustRead(t, oldForm(b), 2)
	}
}

func TestNamedBatchesComeBack(t *testing.T) {
	texts := []impl.Record{{}, {Keyed: true}, {Keyed: true, Gone: true}, {Gone: true}, {Value: "v"}, {Keyed: true, Key: "k"}}
	falling := []impl.Record{{Time: impl.MaxTime}, {Time: 0}, {Time: impl.MaxTime}, {Time: impl.MaxTime}, {Time: 1}, {Time: 0}}
	most := make([]impl.Record, impl.MaxRecords)
	noise := rand.New(rand.NewSource(23))
	for i := range most {
		most[i] = impl.Record{Time: i % 2 * impl.MaxTime, Keyed: true, Key: string(randomBytes(noise, 100, 256)), Value: string(randomBytes(noise, 100, 256))}
		for range impl.MaxHeads {
			most[i].Heads = append(most[i].Heads, impl.Head{Key: string(randomBytes(noise, 100, 256)), Value: string(randomBytes(noise, 100, 256))})
		}
	}
	headed := []impl.Record{{Heads: []impl.Head{{Key: "h"}}}, {Heads: heads(3)}, {}, {Gone: true, Heads: heads(2)}}
	for _, list := range [][]impl.Record{texts, falling, headed, most, records(1), records(40)} {
		for flags := range 4 {
			b := impl.Batch{Base: 3, Producer: 0, Seq: 1, Flags: flags, Records: list}
			mustRead(t, b, 2)
			mustRead(t, oldForm(b), 1)
			mustRead(t, oldForm(b), 2)
		}
	}
	for _, key := range []string{"commit", "abort"} {
		b := marker(key)
		mustRead(t, b, 2)
		b.Flags += impl.FlagSqueezed
		mustRead(t, b, 2)
	}
	ends := impl.Batch{Base: impl.MaxOffset - 39, Epoch: impl.MaxEpoch, Producer: impl.MaxOffset, Turn: impl.MaxTurn, Seq: impl.MaxOffset - 39, Flags: 3, Records: records(40)}
	mustRead(t, ends, 2)
	mustRead(t, oldForm(ends), 1)
}

func mustTurn(t *testing.T, b impl.Batch, version int) {
	t.Helper()
	data := impl.WriteBatch(b, version)
	bodyAt := len(data) - 4 - len(bodyAsTold(b.Records, version))
	if b.Flags%2 == 1 {
		bodyAt = len(data) - 4 - len(squeezeAsTold(bodyAsTold(b.Records, version)))
	}
	for i := range data {
		for turn := 1; turn < 256; turn++ {
			hurt := bytes.Clone(data)
			hurt[i] ^= byte(turn)
			x, at, code := impl.ReadBatch(hurt, 0)
			if code == impl.WireOk || at != 0 || !sameBatch(x, impl.Batch{}) {
				t.Fatalf("version %d, byte %d turned by %d: %d %d", version, i, turn, at, code)
			}
			if i >= bodyAt && code != impl.WireCheck {
				t.Fatalf("version %d, byte %d of body or Check turned by %d: %d", version, i, turn, code)
			}
		}
	}
}

func TestOneByteTurnedIsTold(t *testing.T) {
	b := impl.Batch{Base: 70, Epoch: 2, Producer: 9, Turn: 1, Seq: 4, Flags: impl.FlagOpen, Records: []impl.Record{{Time: 900, Keyed: true, Key: "key", Value: "aaaaaaaaaaaa", Heads: heads(1)}, {Time: 3, Gone: true}}}
	mustTurn(t, b, 2)
	mustTurn(t, oldForm(b), 1)
	b.Flags += impl.FlagSqueezed
	mustTurn(t, b, 2)
	mustTurn(t, oldForm(b), 1)
	mustTurn(t, marker("commit"), 2)
}

func TestWriteBatchGivesNothing(t *testing.T) {
	for name, do := range badBatches() {
		b := ordinary()
		do(&b)
		for version := range 4 {
			if got := impl.WriteBatch(b, version); len(got) != 0 {
				t.Errorf("%s, version %d: %x", name, version, got)
			}
		}
	}
	b := oldForm(ordinary())
	for _, version := range []int{0, 3, -1, 4, 257, 258, math.MaxInt, math.MinInt} {
		if got := impl.WriteBatch(b, version); len(got) != 0 {
			t.Errorf("version %d: %x", version, got)
		}
	}
	if len(impl.WriteBatch(b, 1)) == 0 || len(impl.WriteBatch(b, 2)) == 0 {
		t.Error("a batch that each version holds is not written")
	}
	b.Producer = 0
	if got := impl.WriteBatch(b, 1); len(got) != 0 {
		t.Errorf("version 1 with a producer: %x", got)
	}
	b = oldForm(ordinary())
	b.Records[1].Heads = heads(1)
	if got := impl.WriteBatch(b, 1); len(got) != 0 {
		t.Errorf("version 1 with Heads: %x", got)
	}
	if got := impl.WriteBatch(marker("abort"), 1); len(got) != 0 {
		t.Errorf("version 1, a marker: %x", got)
	}
}

func mustRefuse(t *testing.T, name string, data []byte, at int, want int) {
	t.Helper()
	x, next, code := impl.ReadBatch(data, at)
	if code != want || next != at || !sameBatch(x, impl.Batch{}) {
		t.Errorf("%s: %d at %d, not %d at %d; %+v", name, code, next, want, at, x)
	}
}

func TestReadBatchTellsTheFirstReason(t *testing.T) {
	right := impl.WriteBatch(ordinary(), 2)
	old := impl.WriteBatch(oldForm(ordinary()), 1)
	for _, at := range []int{-1, -2, math.MinInt, len(right), len(right) + 1, len(right) + 2, math.MaxInt} {
		mustRefuse(t, "no byte there", right, at, impl.WireShort)
	}
	for _, at := range []int{0, 1, -1} {
		mustRefuse(t, "no data", nil, at, impl.WireShort)
	}
	far := strings.Repeat("\xff", 11)
	cases := []struct {
		name string
		data string
		want int
	}{
		{"another first byte alone", "N", impl.WireMagic},
		{"0", "\x00", impl.WireMagic},
		{"another first byte, the rest right", "L" + string(right[1:]), impl.WireMagic},
		{"another first byte and version", "L\x09", impl.WireMagic},
		{"no second byte", "M", impl.WireShort},
		{"version 0", "M\x00", impl.WireVersion},
		{"version 3", "M\x03", impl.WireVersion},
		{"version 255", "M\xff", impl.WireVersion},
		{"version 3, the rest right", "M\x03" + string(right[2:]), impl.WireVersion},
		{"version 0, no groups", "M\x00" + far, impl.WireVersion},
		{"no groups, version 1", "M\x01", impl.WireNumber},
		{"no groups, version 2", "M\x02", impl.WireNumber},
		{"the first is none", "M\x01\x80", impl.WireNumber},
		{"the first has too many groups", "M\x01" + far, impl.WireNumber},
		{"the first has more groups than are needed", "M\x01\x80\x00\x00\x00\x00", impl.WireNumber},
		{"the last number of version 1 is not there", "M\x01\x00\x00\x00", impl.WireNumber},
		{"the last number of version 2 is not there", "M\x02\x00\x00\x00\x00\x00\x00", impl.WireNumber},
		{"the last number ends early", "M\x02\x00\x00\x00\x00\x00\x00\x80", impl.WireNumber},
		{"the last number has a needless group", "M\x02\x00\x00\x00\x00\x00\x00\x80\x00", impl.WireNumber},
		{"-1 bytes of the body", "M\x01\x00\x00\x00\x01", impl.WireNumber},
		{"-1 bytes of the body, all there", string(withCheck([]byte("M\x01\x00\x00\x00\x01"))), impl.WireNumber},
		{"least number of bytes", "M\x01\x00\x00\x00" + strings.Repeat("\xff", 9) + "\x01", impl.WireNumber},
		{"greatest number of bytes", "M\x01\x00\x00\x00\xfe" + strings.Repeat("\xff", 8) + "\x01....", impl.WireShort},
		{"no body", "M\x01\x00\x00\x00\x02", impl.WireShort},
		{"no bytes of the body, no Check", "M\x01\x00\x00\x00\x00", impl.WireShort},
		{"no bytes of the body, half a Check", "M\x01\x00\x00\x00\x00abc", impl.WireShort},
		{"no bytes of the body, another Check", "M\x01\x00\x00\x00\x00abcd", impl.WireCheck},
		{"no bytes of the body, the right Check", string(withCheck([]byte("M\x01\x00\x00\x00\x00"))), impl.WireForm},
		{"a head that is none, short", "M\x01\x01\x01\x01\x02", impl.WireShort},
		{"a head that is none, another Check", "M\x01\x01\x01\x01\x02abcde", impl.WireCheck},
		{"a head that is none", string(withCheck([]byte("M\x01\x01\x01\x01\x02a"))), impl.WireForm},
	}
	for _, c := range cases {
		mustRefuse(t, c.name, []byte(c.data), 0, c.want)
		mustRefuse(t, c.name+", behind others", []byte("MM"+c.data), 2, c.want)
	}
	for _, data := range [][]byte{right, old} {
		for end := range data {
			want := impl.WireShort
			if end >= 2 && end < map[byte]int{1: 6, 2: 9}[data[1]] {
				want = impl.WireNumber
			}
			mustRefuse(t, "cut", data[:end:end], 0, want)
			mustRefuse(t, "cut, the rest behind the length", data[:end], 0, want)
		}
	}
}

func numbers(list ...any) []byte {
	var out []byte
	for _, x := range list {
		switch y := x.(type) {
		case int:
			out = append(out, groupsAsTold(y)...)
		case string:
			out = append(out, y...)
		}
	}
	return out
}

// Bytes with a right Check that no batch is written as.
func TestReadBatchOfAnotherForm(t *testing.T) {
	plain := []int{0, 0, -1, 0, 0, 0}
	one := numbers(1, 5, 1, "k", 1, "v", 0)
	if _, _, code := impl.ReadBatch(wire(2, plain, one), 0); code != impl.WireOk {
		t.Fatal("the right one is refused:", code)
	}
	bodies := map[string][]byte{
		"no bytes":                     {},
		"no records":                   numbers(0),
		"-1 records":                   numbers(-1),
		"a record fewer":               numbers(2, 5, 1, "k", 1, "v", 0),
		"a byte more":                  numbers(1, 5, 1, "k", 1, "v", 0, 0),
		"a record more":                numbers(1, 5, 1, "k", 1, "v", 0, 5, 1, "k", 1, "v", 0),
		"no Heads told":                numbers(1, 5, 1, "k", 1, "v"),
		"a needless group":             numbers("\x82\x00", 5, 1, "k", 1, "v", 0),
		"no groups":                    numbers("\x80"),
		"no Time":                      numbers(1),
		"no Key":                       numbers(1, 5),
		"no Value":                     numbers(1, 5, 1, "k"),
		"Time -1":                      numbers(1, -1, 1, "k", 1, "v", 0),
		"Time beyond":                  numbers(1, impl.MaxTime+1, 1, "k", 1, "v", 0),
		"a later Time below 0":         numbers(2, 5, -1, 0, 0, -6, -1, 0, 0),
		"a later Time beyond":          numbers(2, 5, -1, 0, 0, impl.MaxTime-4, -1, 0, 0),
		"Times that go round":          numbers(3, 5, -1, 0, 0, math.MaxInt, -1, 0, 0, math.MaxInt, -1, 0, 0),
		"Key of -2":                    numbers(1, 5, -2, 1, "v", 0),
		"Value of -2":                  numbers(1, 5, 1, "k", -2, 0),
		"Key of 101":                   numbers(1, 5, 101, long(101), 1, "v", 0),
		"Value of 101":                 numbers(1, 5, 1, "k", 101, long(101), 0),
		"Key longer than what is left": numbers(1, 5, 10, "k", 1, "v", 0),
		"Key of the greatest number":   numbers(1, 5, math.MaxInt, "k", 1, "v", 0),
		"Value longer than what is":    numbers(1, 5, 1, "k", 10, "v", 0),
		"-1 Heads":                     numbers(1, 5, 1, "k", 1, "v", -1),
		"four Heads":                   numbers(1, 5, 1, "k", 1, "v", 4, 1, 0, "h", 1, 0, "h", 1, 0, "h", 1, 0, "h"),
		"a Head fewer":                 numbers(1, 5, 1, "k", 1, "v", 1),
		"an empty Key of a Head":       numbers(1, 5, 1, "k", 1, "v", 1, 0, 0),
		"an empty Key beside a Value":  numbers(1, 5, 1, "k", 1, "v", 1, 0, 1, "w"),
		"no Key of a Head":             numbers(1, 5, 1, "k", 1, "v", 1, -1, 0),
		"no Value of a Head":           numbers(1, 5, 1, "k", 1, "v", 1, 1, -1, "h"),
		"a Head's Key of -2":           numbers(1, 5, 1, "k", 1, "v", 1, -2, 1, "w"),
		"a Head's Value of -2":         numbers(1, 5, 1, "k", 1, "v", 1, 1, -2, "h"),
		"a Head's Key of 101":          numbers(1, 5, 1, "k", 1, "v", 1, 101, 0, long(101)),
		"a Head's Value of 101":        numbers(1, 5, 1, "k", 1, "v", 1, 1, 101, "h", long(101)),
		"a Head's Key alone told":      numbers(1, 5, 1, "k", 1, "v", 1, 1),
		"a Head's numbers alone":       numbers(1, 5, 1, "k", 1, "v", 1, 1, 1),
		"a Head's Value ends early":    numbers(1, 5, 1, "k", 1, "v", 1, 1, 2, "h", "w"),
		"a Head's Value is not there":  numbers(1, 5, 1, "k", 1, "v", 1, 1, 1, "h"),
		"a Head's Key too far":         numbers(1, 5, 1, "k", 1, "v", 1, math.MaxInt, 1, "h", "w"),
		"a Head's Value too far":       numbers(1, 5, 1, "k", 1, "v", 1, 1, math.MaxInt, "h", "w"),
		"a Head's needless group":      numbers(1, 5, 1, "k", 1, "v", 1, 1, "\x82\x00", "h", "w"),
		"a Head's bytes between":       numbers(1, 5, 1, "k", 1, "v", 1, 1, "h", 1, "w"),
		"the second Head's between":    numbers(1, 5, 1, "k", 1, "v", 2, 1, 1, "h", "w", 1, "h", 1, "w"),
		"41 records":                   numbers(41, strings.Repeat("\x00\x01\x00\x00", 41)),
		"very many records":            numbers(math.MaxInt, strings.Repeat("\x00\x01\x00\x00", 41)),
		"very many Heads":              numbers(1, 5, 1, "k", 1, "v", math.MaxInt, 1, 0, "h"),
	}
	for name, body := range bodies {
		mustRefuse(t, name, wire(2, plain, body), 0, impl.WireForm)
		mustRefuse(t, name+", squeezed", wire(2, []int{0, 0, -1, 0, 0, 1}, squeezeAsTold(body)), 0, impl.WireForm)
	}
	heads := map[string][]int{
		"Base -1":                    {-1, 0, -1, 0, 0, 0},
		"Base beyond":                {impl.MaxOffset + 1, 0, -1, 0, 0, 0},
		"Epoch -1":                   {0, -1, -1, 0, 0, 0},
		"Epoch beyond":               {0, impl.MaxEpoch + 1, -1, 0, 0, 0},
		"Producer -2":                {0, 0, -2, 0, 0, 0},
		"Producer beyond":            {0, 0, impl.MaxOffset + 1, 0, 0, 0},
		"Turn without a producer":    {0, 0, -1, 1, 0, 0},
		"Seq without a producer":     {0, 0, -1, 0, 1, 0},
		"Turn beyond":                {0, 0, 1, impl.MaxTurn + 1, 0, 0},
		"Seq beyond":                 {0, 0, 1, 0, impl.MaxOffset + 1, 0},
		"open without a producer":    {0, 0, -1, 0, 0, 2},
		"a marker with another Key":  {0, 0, 1, 0, 0, 6},
		"a mark that is not open":    {0, 0, 1, 0, 0, 4},
		"Flags 8":                    {0, 0, 1, 0, 0, 8},
		"Flags -2":                   {0, 0, 1, 0, 0, -2},
		"squeezed, but it isn't":     {0, 0, 1, 0, 0, 1},
		"all flags and not squeezed": {0, 0, 1, 0, 0, 7},
	}
	for name, head := range heads {
		mustRefuse(t, name, wire(2, head, one), 0, impl.WireForm)
	}
}

// What Expand takes is still no batch when Squeeze would have written it otherwise.
func TestReadBatchOfBodiesSqueezedOtherwise(t *testing.T) {
	head := []int{0, 0, -1, 0, 0, 1}
	body := numbers(1, 5, 1, "k", 8, "abcdabcd", 0)
	for _, data := range [][]byte{{}, {0}, {200}, {128, 0, 0}, append(squeezeAsTold(body), 0), append([]byte{byte(len(body) - 1)}, body...)} {
		mustRefuse(t, "squeezed otherwise", wire(2, head, data), 0, impl.WireForm)
	}
	if _, _, code := impl.ReadBatch(wire(2, head, squeezeAsTold(body)), 0); code != impl.WireOk {
		t.Error("squeezed as told:", code)
	}
	mustRefuse(t, "squeezed without the flag", wire(2, []int{0, 0, -1, 0, 0, 0}, squeezeAsTold(body)), 0, impl.WireForm)
	bomb := squeezeAsTold(make([]byte, impl.MaxBytes))
	mustRefuse(t, "very many noughts", wire(2, head, bomb), 0, impl.WireForm)
	mustRefuse(t, "more than Expand takes", wire(2, head, append(bomb, 128, 0, 0)), 0, impl.WireForm)
	mustRefuse(t, "a great body", wire(2, []int{0, 0, -1, 0, 0, 0}, make([]byte, 300000)), 0, impl.WireForm)
}

func TestVersionOneKnowsNoProducers(t *testing.T) {
	body := numbers(1, 5, 6, "commit", 0)
	if x, _, code := impl.ReadBatch(wire(1, []int{3, 4, 0}, body), 0); code != impl.WireOk || x.Producer != -1 || x.Turn != 0 || x.Seq != 0 || x.Base != 3 || x.Epoch != 4 {
		t.Error("version 1:", x, code)
	}
	for _, flags := range []int{2, 3, 4, 6, 7, 8, -1} {
		mustRefuse(t, "flags that ask for a producer", wire(1, []int{3, 4, flags}, body), 0, impl.WireForm)
	}
	mustRefuse(t, "Heads in version 1", wire(1, []int{3, 4, 0}, numbers(1, 5, 1, "k", 0, 0)), 0, impl.WireForm)
	mustRefuse(t, "no Heads in version 2", wire(2, []int{3, 4, -1, 0, 0, 0}, body), 0, impl.WireForm)
}

// readAsTold asks one thing after the other, in the document's order.
func readAsTold(data []byte, at int) (impl.Batch, int, int) {
	if at < 0 || at >= len(data) {
		return impl.Batch{}, at, 1
	}
	if data[at] != 77 {
		return impl.Batch{}, at, 2
	}
	if at+1 == len(data) {
		return impl.Batch{}, at, 1
	}
	version := int(data[at+1])
	if version != 1 && version != 2 {
		return impl.Batch{}, at, 3
	}
	head := make([]int, map[int]int{1: 4, 2: 7}[version])
	place := at + 2
	for i := range head {
		var ok bool
		if head[i], place, ok = impl.GetInt(data, place); !ok {
			return impl.Batch{}, at, 4
		}
	}
	size := head[len(head)-1]
	if size < 0 {
		return impl.Batch{}, at, 4
	}
	if left := len(data) - place; left < 4 || size > left-4 {
		return impl.Batch{}, at, 1
	}
	end := place + size + 4
	if !bytes.Equal(withCheck(data[at:end-4]), data[at:end]) {
		return impl.Batch{}, at, 5
	}
	b, ok := formAsTold(version, head, data[place:place+size])
	if !ok || !bytes.Equal(writeAsTold(b, version), data[at:end]) {
		return impl.Batch{}, at, 6
	}
	return b, end, 0
}

func formAsTold(version int, head []int, body []byte) (impl.Batch, bool) {
	b := impl.Batch{Base: head[0], Epoch: head[1], Producer: -1, Flags: head[len(head)-2]}
	if version == 2 {
		b.Producer, b.Turn, b.Seq = head[2], head[3], head[4]
	}
	ok := true
	if b.Flags&1 == 1 {
		body, ok = expandAsTold(body, 60000)
	}
	at := 0
	number := func() int {
		n, next, fine := impl.GetInt(body, at)
		ok, at = ok && fine, next
		return n
	}
	text := func(n int) string {
		if ok = ok && n >= 0 && n <= len(body)-at; !ok {
			return ""
		}
		at += n
		return string(body[at-n : at])
	}
	time := 0
	for left := number(); ok && left > 0; left-- {
		x := impl.Record{}
		time += number()
		x.Time = time
		if n := number(); n != -1 {
			x.Keyed, x.Key = true, text(n)
		}
		if n := number(); n == -1 {
			x.Gone = true
		} else {
			x.Value = text(n)
		}
		if version == 2 {
			for more := number(); ok && more > 0; more-- {
				keyed, valued := number(), number()
				key := text(keyed)
				x.Heads = append(x.Heads, impl.Head{Key: key, Value: text(valued)})
			}
		}
		b.Records = append(b.Records, x)
	}
	return b, ok
}

// smallBatch has few bytes, so that a turned one is likely to hurt something else each time.
func smallBatch(r *rand.Rand) impl.Batch {
	b := randomBatch(r)
	b.Records = b.Records[:min(len(b.Records), 3)]
	for i := range b.Records {
		x := &b.Records[i]
		if b.Flags < impl.FlagMark {
			x.Key, x.Value = x.Key[:min(len(x.Key), 3)], x.Value[:min(len(x.Value), 5)]
		}
		for j := range x.Heads {
			h := &x.Heads[j]
			h.Key, h.Value = h.Key[:min(len(h.Key), 2)], h.Value[:min(len(h.Value), 3)]
		}
	}
	return b
}

func TestReadBatchIsAsTold(t *testing.T) {
	r := rand.New(rand.NewSource(24))
	told := map[int]int{}
	for range 40000 {
		b := smallBatch(r)
		version := 2
		if r.Intn(3) == 0 {
			b, version = oldForm(b), 1
		}
		data := impl.WriteBatch(b, version)
		data = data[:len(data)-4]
		for range r.Intn(3) {
			place := r.Intn(len(data))
			switch r.Intn(4) {
			case 0:
				data[place] = pick(r, 0, 1, 2, 127, 128, 255, byte(r.Intn(256)))
			case 1:
				data[place] += byte(r.Intn(5)) - 2
			case 2:
				data = slices.Delete(data, place, place+1)
			case 3:
				data = slices.Insert(data, place, byte(r.Intn(256)))
			}
			if len(data) == 0 {
				data = []byte{77}
			}
		}
		if r.Intn(10) > 0 {
			data = withCheck(data)
		}
		at := pick(r, 0, 0, 0, 1, 5)
		data = append(bytes.Repeat([]byte{77}, at), data...)
		if r.Intn(10) == 0 {
			data = data[:r.Intn(len(data)+1)]
		}
		x, next, code := impl.ReadBatch(data, at)
		wantX, wantNext, wantCode := readAsTold(data, at)
		if code != wantCode || next != wantNext || !sameBatch(x, wantX) {
			t.Fatalf("ReadBatch(%x, %d) is %+v %d %d, not %+v %d %d", data, at, x, next, code, wantX, wantNext, wantCode)
		}
		told[code]++
	}
	for code := range 7 {
		if told[code] < 100 {
			t.Errorf("code %d is seldom tried: %d", code, told[code])
		}
	}
}

func TestReadAll(t *testing.T) {
	r := rand.New(rand.NewSource(25))
	for range 200 {
		var data []byte
		var want []impl.Batch
		var ends []int
		for range r.Intn(6) {
			b, version := smallBatch(r), 2
			if r.Intn(2) == 0 {
				b, version = oldForm(b), 1
			}
			data, want = append(data, impl.WriteBatch(b, version)...), append(want, b)
			ends = append(ends, len(data))
		}
		mustReadAll(t, data, want, impl.WireOk)
		mustReadAll(t, append(bytes.Clone(data), 'M'), want, impl.WireShort)
		mustReadAll(t, append(bytes.Clone(data), 'N'), want, impl.WireMagic)
		mustReadAll(t, append(bytes.Clone(data), 'M', 3), want, impl.WireVersion)
		mustReadAll(t, append(bytes.Clone(data), 'M', 2, 128), want, impl.WireNumber)
		mustReadAll(t, append(bytes.Clone(data), "M\x01\x00\x00\x00\x00abcd"...), want, impl.WireCheck)
		mustReadAll(t, append(bytes.Clone(data), withCheck([]byte("M\x01\x00\x00\x00\x00"))...), want, impl.WireForm)
		if len(data) > 0 {
			mustReadAll(t, data[:len(data)-1], want[:len(want)-1], impl.WireShort)
			cut := r.Intn(len(want))
			hurt := bytes.Clone(data)
			hurt[ends[cut]-1]++
			mustReadAll(t, hurt, want[:cut], impl.WireCheck)
		}
	}
	mustReadAll(t, nil, nil, impl.WireOk)
	mustReadAll(t, []byte{}, nil, impl.WireOk)
	mustReadAll(t, []byte{77}, nil, impl.WireShort)
}

func mustReadAll(t *testing.T, data []byte, want []impl.Batch, wantCode int) {
	t.Helper()
	list, code := impl.ReadAll(data)
	if code != wantCode || !slices.EqualFunc(list, want, sameBatch) {
		t.Fatalf("ReadAll(%x) is %d batches and %d, not %d and %d", data, len(list), code, len(want), wantCode)
	}
}

func TestWireLeavesArgumentsAlone(t *testing.T) {
	r := rand.New(rand.NewSource(26))
	for range 300 {
		data := impl.WriteBatch(smallBatch(r), 2)
		room := append(append(bytes.Clone(data), data...), "behind"...)
		if r.Intn(3) == 0 {
			room[r.Intn(len(room))]++
		}
		before := bytes.Clone(room)
		impl.ReadBatch(room[:len(data)], 0)
		impl.ReadBatch(room[:len(room)-6], len(data))
		impl.ReadBatch(room[:len(data)-1], 0)
		impl.ReadAll(room[:len(room)-6])
		if !bytes.Equal(room, before) {
			t.Fatal("an argument, or the room around it, was written into")
		}
	}
}

func TestWireAnswersAreNewMemory(t *testing.T) {
	b := impl.Batch{Base: 1, Producer: 2, Records: []impl.Record{{Keyed: true, Key: "key", Value: "value", Heads: heads(2)}, {Keyed: true, Key: "key", Heads: heads(3)}}}
	for _, flags := range []int{0, impl.FlagSqueezed} {
		b.Flags = flags
		data := impl.WriteBatch(b, 2)
		other := impl.WriteBatch(b, 2)
		overwrite(other)
		x, _, _ := impl.ReadBatch(data, 0)
		again, _, _ := impl.ReadBatch(data, 0)
		list, _ := impl.ReadAll(append(bytes.Clone(data), data...))
		overwrite(data)
		wreck(again)
		wreck(list[1])
		if !sameBatch(x, b) || !sameBatch(list[0], b) {
			t.Errorf("an answer shares memory: %+v, %+v", x, list[0])
		}
		fill := x.Records[0].Heads[:cap(x.Records[0].Heads)]
		for i := range fill {
			fill[i] = impl.Head{Key: "fill"}
		}
		if !reflect.DeepEqual(x.Records[1], b.Records[1]) {
			t.Errorf("two lists of one answer share memory: %+v", x)
		}
	}
}

// wreck writes over all lists of a batch and the room behind them.
func wreck(b impl.Batch) {
	for _, x := range b.Records {
		clear(x.Heads[:cap(x.Heads)])
	}
	clear(b.Records[:cap(b.Records)])
}
