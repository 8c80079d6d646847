package tests

import (
	"bytes"
	"hash/crc32"
	"math"
	"math/big"
	"math/rand"
	"strings"
	"testing"

	"loop.example/g00035/impl"
)

func TestLimitsOfBytes(t *testing.T) {
	if impl.MaxName != 20 || impl.MaxTime != 1000000000000 || impl.MaxOffset != 1000000000 || impl.MaxBytes != 60000 {
		t.Error("a limit is another than the document's")
	}
}

func TestNameOk(t *testing.T) {
	good := []string{"a", "z", "A", "Z", "a0", "a9", "a_", "Zz_09", strings.Repeat("a", 19), strings.Repeat("a", 20), "b" + strings.Repeat("_", 19)}
	for _, s := range good {
		if !impl.NameOk(s) {
			t.Errorf("refused: %q", s)
		}
	}
	bad := []string{"", "_", "_a", "0", "9a", strings.Repeat("a", 21), strings.Repeat("a", 1000), " a", "a ", "a-b", "a.b", "a\x00", "a\n", "\xff", "a\xff", "é", "aé", strings.Repeat("a", 19) + "-", strings.Repeat("a", 20) + "\x00"}
	for _, s := range bad {
		if impl.NameOk(s) {
			t.Errorf("taken: %q", s)
		}
	}
}

func TestNameOkOfEachByte(t *testing.T) {
	const letters = "abcdefghijklmnopqrstuvwxyzABCDEFGHIJKLMNOPQRSTUVWXYZ"
	for c := range 256 {
		b := byte(c)
		first := strings.IndexByte(letters, b) >= 0
		later := strings.IndexByte(letters+"0123456789_", b) >= 0
		if impl.NameOk(string([]byte{b})) != first {
			t.Errorf("byte %d alone", c)
		}
		if impl.NameOk(string([]byte{'q', b})) != later || impl.NameOk(string([]byte{'q', b, 'q'})) != later {
			t.Errorf("byte %d behind another", c)
		}
	}
}

// groupsAsTold reckons with numbers that have no end, so that the ends of 64 bits are nothing special to it.
func groupsAsTold(n int) []byte {
	u := new(big.Int).Mul(big.NewInt(int64(n)), big.NewInt(2))
	if n < 0 {
		u.Neg(u).Sub(u, big.NewInt(1))
	}
	var out []byte
	for {
		low := byte(new(big.Int).And(u, big.NewInt(127)).Int64())
		u.Rsh(u, 7)
		if u.Sign() == 0 {
			return append(out, low)
		}
		out = append(out, low|128)
	}
}

func numbersToTry() []int {
	out := []int{0, 1, -1, 300, math.MaxInt, math.MinInt, math.MaxInt - 1, math.MinInt + 1, impl.MaxTime, impl.MaxOffset, -impl.MaxTime}
	for shift := range 63 {
		p := 1 << shift
		out = append(out, p-1, p, p+1, -p-1, -p, -p+1)
	}
	r := rand.New(rand.NewSource(1))
	for range 2000 {
		out = append(out, int(r.Uint64())>>r.Intn(64))
	}
	return out
}

func TestNumbersComeBackFromTheirGroups(t *testing.T) {
	for _, n := range numbersToTry() {
		groups := impl.PutInt(n)
		if want := groupsAsTold(n); !bytes.Equal(groups, want) {
			t.Fatalf("PutInt(%d) is %x, not %x", n, groups, want)
		}
		for _, ahead := range []int{0, 1, 7, 300} {
			for _, behind := range []string{"", "\x00", "\x80", "\xff\xff", "\x01"} {
				data := append(bytes.Repeat([]byte{0xff}, ahead), groups...)
				data = append(data, behind...)
				got, next, ok := impl.GetInt(data, ahead)
				if got != n || next != ahead+len(groups) || !ok {
					t.Fatalf("GetInt(%x, %d) is %d %d %v, not %d", data, ahead, got, next, ok, n)
				}
			}
		}
	}
}

func TestPutIntAtTheEnds(t *testing.T) {
	nines := strings.Repeat("\xff", 8)
	cases := []struct {
		n    int
		want string
	}{
		{0, "\x00"}, {-1, "\x01"}, {1, "\x02"}, {-2, "\x03"}, {63, "\x7e"}, {-64, "\x7f"}, {64, "\x80\x01"}, {-65, "\x81\x01"},
		{8191, "\xfe\x7f"}, {-8192, "\xff\x7f"}, {8192, "\x80\x80\x01"},
		{math.MaxInt, "\xfe" + nines + "\x01"}, {math.MinInt, "\xff" + nines + "\x01"},
	}
	for _, c := range cases {
		if got := string(impl.PutInt(c.n)); got != c.want {
			t.Errorf("PutInt(%d) is %x, not %x", c.n, got, c.want)
		}
	}
}

func TestPutIntTellsNumbersApart(t *testing.T) {
	seen := map[string]int{}
	for _, n := range numbersToTry() {
		groups := string(impl.PutInt(n))
		if other, ok := seen[groups]; ok && other != n {
			t.Fatalf("%d and %d have the same groups", n, other)
		}
		seen[groups] = n
	}
}

func TestGetIntRefuses(t *testing.T) {
	nine := strings.Repeat("\x80", 9)
	cases := []struct {
		b  string
		at int
	}{
		{"", 0}, {"", 1}, {"", -1}, {"\x02", -1}, {"\x02", 1}, {"\x02", 2}, {"\x02", math.MaxInt}, {"\x02", math.MinInt}, {"\x02\x02", 3},
		{"\x80", 0}, {"\xff", 0}, {"\x80\x80", 0}, {"\x02\x80", 1}, {nine, 0}, {strings.Repeat("\xff", 9), 0},
		{"\x80\x00", 0}, {"\x81\x00", 0}, {"\xff\x80\x00", 0}, {"\xff\x00", 0}, {nine + "\x00", 0}, {"\x02\x82\x00", 1},
		{nine + "\x02", 0}, {nine + "\x03", 0}, {nine + "\x40", 0}, {nine + "\x7f", 0}, {strings.Repeat("\xff", 9) + "\x02", 0},
		{nine + "\x80", 0}, {nine + "\x81", 0}, {nine + "\x80\x00", 0}, {nine + "\x80\x01", 0}, {nine + "\x81\x01", 0}, {nine + "\x81\x00", 0},
		{strings.Repeat("\x80", 10) + "\x01", 0}, {strings.Repeat("\xff", 11), 0}, {strings.Repeat("\xff", 100) + "\x01", 0},
	}
	for _, c := range cases {
		if n, next, ok := impl.GetInt([]byte(c.b), c.at); n != 0 || next != 0 || ok {
			t.Errorf("GetInt(%x, %d) is %d %d %v", c.b, c.at, n, next, ok)
		}
	}
	if _, _, ok := impl.GetInt(nil, 0); ok {
		t.Error("a number out of nothing")
	}
}

func TestGetIntOfTenGroups(t *testing.T) {
	n, next, ok := impl.GetInt([]byte(strings.Repeat("\x80", 9)+"\x01"), 0)
	if n != 1<<62 || next != 10 || !ok {
		t.Error("the highest bit alone:", n, next, ok)
	}
	n, next, ok = impl.GetInt([]byte("..."+strings.Repeat("\xff", 9)+"\x01."), 3)
	if n != math.MinInt || next != 13 || !ok {
		t.Error("all bits:", n, next, ok)
	}
}

// Whatever GetInt takes is just what PutInt writes: no number has two forms.
func TestGetIntTakesOnlyWhatPutIntWrites(t *testing.T) {
	r := rand.New(rand.NewSource(2))
	for range 20000 {
		data := make([]byte, r.Intn(14))
		for i := range data {
			data[i] = []byte{0, 1, 2, 0x7f, 0x80, 0x81, 0xff, byte(r.Intn(256)) | 0x80}[r.Intn(8)]
		}
		at := r.Intn(3)
		n, next, ok := impl.GetInt(data, at)
		if ok && (next > len(data) || !bytes.Equal(data[at:next], impl.PutInt(n))) {
			t.Fatalf("GetInt(%x, %d) is %d %d", data, at, n, next)
		}
		if !ok && (n != 0 || next != 0) {
			t.Fatalf("GetInt(%x, %d) refuses with %d %d", data, at, n, next)
		}
	}
}

func TestGetIntLooksNotBehindTheLength(t *testing.T) {
	room := []byte{0x80, 0x80, 0x01, 0x02}
	if _, _, ok := impl.GetInt(room[:2], 0); ok {
		t.Error("groups went on behind the length")
	}
	if _, _, ok := impl.GetInt(room[:2], 3); ok {
		t.Error("a place behind the length")
	}
}

// checkAsTold is the document's rule, bit by bit.
func checkAsTold(b []byte) int {
	c := 1<<32 - 1
	for _, x := range b {
		c ^= int(x)
		for range 8 {
			odd := c%2 == 1
			c /= 2
			if odd {
				c ^= 3988292384
			}
		}
	}
	return c ^ (1<<32 - 1)
}

func TestCheck(t *testing.T) {
	cases := []struct {
		b    string
		want int
	}{
		{"", 0}, {"\x00", 3523407757}, {"\xff", 4278190080}, {"a", 3904355907}, {"123456789", 3421780262}, {strings.Repeat("\x00", 4), 558161692}, {strings.Repeat("\xff", 4), 4294967295},
	}
	for _, c := range cases {
		if got := impl.Check([]byte(c.b)); got != c.want {
			t.Errorf("Check(%x) is %d, not %d", c.b, got, c.want)
		}
	}
	r := rand.New(rand.NewSource(3))
	for length := range 600 {
		b := make([]byte, length)
		r.Read(b)
		got := impl.Check(b)
		if got != checkAsTold(b) || got != int(crc32.ChecksumIEEE(b)) {
			t.Fatalf("Check(%x) is %d", b, got)
		}
	}
	for c := range 256 {
		if b := []byte{byte(c)}; impl.Check(b) != checkAsTold(b) {
			t.Errorf("Check of the byte %d", c)
		}
	}
}

func TestOneByteTurnedChangesTheCheck(t *testing.T) {
	r := rand.New(rand.NewSource(4))
	for _, length := range []int{1, 2, 3, 4, 5, 8, 33, 200} {
		for _, b := range [][]byte{make([]byte, length), bytes.Repeat([]byte{0xff}, length), randomBytes(r, length, 256)} {
			whole := impl.Check(b)
			for i := range b {
				for turn := 1; turn < 256; turn++ {
					b[i] ^= byte(turn)
					if impl.Check(b) == whole {
						t.Fatalf("byte %d of %d turned by %d: the Check is the same", i, length, turn)
					}
					b[i] ^= byte(turn)
				}
			}
		}
	}
	long := randomBytes(r, impl.MaxBytes, 256)
	whole := impl.Check(long)
	for _, i := range []int{0, 1, 4095, 30000, impl.MaxBytes - 1} {
		long[i]++
		if impl.Check(long) == whole {
			t.Errorf("byte %d of many turned: the Check is the same", i)
		}
		long[i]--
	}
}

func TestBytesLeavesArgumentsAlone(t *testing.T) {
	r := rand.New(rand.NewSource(5))
	for range 300 {
		room := randomBytes(r, 400, 3)
		before := bytes.Clone(room)
		from := r.Intn(200)
		part := room[from : from+r.Intn(200)]
		impl.GetInt(part, 0)
		impl.GetInt(part, len(part)/2)
		impl.Check(part)
		impl.Squeeze(part)
		impl.Expand(part, impl.MaxBytes)
		squeezed := append(impl.Squeeze(part), 0x11, 0x22, 0x33)
		kept := bytes.Clone(squeezed)
		impl.Expand(squeezed[:len(squeezed)-3], impl.MaxBytes)
		if !bytes.Equal(room, before) || !bytes.Equal(squeezed, kept) {
			t.Fatal("an argument, or the room around it, was written into")
		}
	}
}

func TestBytesAnswersAreNewMemory(t *testing.T) {
	input := []byte("abcabcabcabcXYZ")
	squeezed := impl.Squeeze(input)
	copyOfSqueezed := bytes.Clone(squeezed)
	for i := range input {
		input[i] = '#'
	}
	if !bytes.Equal(squeezed, copyOfSqueezed) {
		t.Error("Squeeze shares memory with its argument")
	}
	out, _ := impl.Expand(squeezed, 100)
	for i := range squeezed {
		squeezed[i] = 0
	}
	if string(out) != "abcabcabcabcXYZ" {
		t.Error("Expand shares memory with its argument")
	}
	for _, n := range []int{0, 5, 300, math.MinInt} {
		one, other := impl.PutInt(n), impl.PutInt(n)
		kept := bytes.Clone(other)
		overwrite(one)
		if !bytes.Equal(other, kept) || !bytes.Equal(impl.PutInt(n), kept) {
			t.Error("two answers of PutInt share memory")
		}
	}
	for _, s := range []string{"", "plain", "abcdabcdabcd"} {
		one, other := impl.Squeeze([]byte(s)), impl.Squeeze([]byte(s))
		kept := bytes.Clone(other)
		overwrite(one)
		first, _ := impl.Expand(kept, 100)
		second, _ := impl.Expand(kept, 100)
		overwrite(first)
		if !bytes.Equal(other, kept) || string(second) != s {
			t.Errorf("two answers of one call's kind share memory: %q", s)
		}
	}
}

// overwrite writes over a list and its spare room.
func overwrite(b []byte) {
	b = b[:cap(b)]
	for i := range b {
		b[i] ^= 0xff
	}
}

// randomBytes: that many bytes, each one of the first few.
func randomBytes(r *rand.Rand, length int, kinds int) []byte {
	b := make([]byte, length)
	for i := range b {
		b[i] = byte(r.Intn(kinds))
	}
	return b
}
