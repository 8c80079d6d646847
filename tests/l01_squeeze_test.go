package tests

import (
	"bytes"
	"math"
	"math/rand"
	"strings"
	"testing"

	"loop.example/g00035/impl"
)

// squeezeAsTold is the document's rule, place by place and without any shortcut.
func squeezeAsTold(b []byte) []byte {
	var out, plain []byte
	flush := func() {
		if len(plain) > 0 {
			out = append(append(out, byte(len(plain)-1)), plain...)
			plain = nil
		}
	}
	for at := 0; at < len(b); {
		length, distance := copyAsTold(b, at)
		if length < 4 {
			plain = append(plain, b[at])
			at++
			if len(plain) == 128 {
				flush()
			}
			continue
		}
		flush()
		out = append(out, byte(124+length), byte((distance-1)>>8), byte(distance-1))
		at += length
	}
	flush()
	return out
}

func copyAsTold(b []byte, at int) (int, int) {
	length, distance := 0, 0
	for d := 1; d <= 4096 && d <= at; d++ {
		n := 0
		for n < 67 && at+n < len(b) && b[at-d+n] == b[at+n] {
			n++
		}
		if n > length {
			length, distance = n, d
		}
	}
	return length, distance
}

// distinct: that many bytes of which no four stand twice (as long as there are fewer than some ten thousand).
func distinct(count int) []byte {
	var out []byte
	for i := 0; len(out) < count; i++ {
		out = append(out, byte(i%251), byte(i/251), 255)
	}
	return out[:count]
}

func mustComeBack(t *testing.T, b []byte) []byte {
	t.Helper()
	squeezed := impl.Squeeze(b)
	out, ok := impl.Expand(squeezed, len(b))
	if !ok || !bytes.Equal(out, b) {
		t.Fatalf("%d bytes do not come back (%v): %.80x", len(b), ok, b)
	}
	if out, ok = impl.Expand(squeezed, impl.MaxBytes); !ok || !bytes.Equal(out, b) {
		t.Fatalf("%d bytes do not come back when more might: %.80x", len(b), b)
	}
	if len(b) > 0 {
		if out, ok = impl.Expand(squeezed, len(b)-1); ok || len(out) != 0 {
			t.Fatalf("%d bytes come back where one fewer is the most: %.80x", len(b), b)
		}
	}
	return squeezed
}

func TestSqueezeOfPlainBytes(t *testing.T) {
	if got := mustComeBack(t, nil); len(got) != 0 {
		t.Errorf("of nothing: %x", got)
	}
	for _, s := range []string{"a", "ab", "abc", "aaa", "aaaa", "abcabc", "\x00", "\xff\xff\xff"} {
		want := string([]byte{byte(len(s) - 1)}) + s
		if got := string(mustComeBack(t, []byte(s))); got != want {
			t.Errorf("of %q: %x, not %x", s, got, want)
		}
	}
}

func TestSqueezeCutsPlainBytesAt128(t *testing.T) {
	for _, count := range []int{127, 128, 129, 255, 256, 257, 384, 385, 1000} {
		b := distinct(count)
		var want []byte
		for rest := b; len(rest) > 0; rest = rest[min(128, len(rest)):] {
			n := min(128, len(rest))
			want = append(append(want, byte(n-1)), rest[:n]...)
		}
		if got := mustComeBack(t, b); !bytes.Equal(got, want) {
			t.Errorf("%d plain bytes: %x", count, got)
		}
	}
}

func TestSqueezeOfCopies(t *testing.T) {
	p100 := string(distinct(100))
	cases := []struct {
		name, b, want string
	}{
		{"four", "abcd.abcd", "\x04abcd.\x80\x00\x04"},
		{"three are none", "abc.abc", "\x06abc.abc"},
		{"66", p100 + p100[:66], "\x63" + p100 + "\xbe\x00\x63"},
		{"67", p100 + p100[:67], "\x63" + p100 + "\xbf\x00\x63"},
		{"68, the last one plain", p100 + p100[:68], "\x63" + p100 + "\xbf\x00\x63\x00" + p100[67:68]},
		{"71, the last four a copy", p100 + p100[:71], "\x63" + p100 + "\xbf\x00\x63\x80\x00\x63"},
		{"over its own place by one", "aaaaa", "\x00a\x80\x00\x00"},
		{"over its own place, 67", strings.Repeat("a", 68), "\x00a\xbf\x00\x00"},
		{"over its own place, 69 and one more", strings.Repeat("a", 69), "\x00a\xbf\x00\x00\x00a"},
		{"over its own place, twice", strings.Repeat("a", 72), "\x00a\xbf\x00\x00\x80\x00\x00"},
		{"over its own place by two", "ababababa", "\x01ab\x83\x00\x01"},
		{"the longest, not the nearest", "abcdeX.abcdY-abcde", "\x06abcdeX.\x80\x00\x06\x01Y-\x81\x00\x0c"},
		{"of the longest the nearest", "abcdX.abcdY-abcdZ", "\x05abcdX.\x80\x00\x05\x01Y-\x80\x00\x05\x00Z"},
		{"plain, copy, plain, copy", "wxyz.wxyz-wxyz.", "\x04wxyz.\x80\x00\x04\x00-\x81\x00\x09"},
		{"not waiting for a longer one a place on", "abcd-bcdefgh+abcdefgh", "\x0cabcd-bcdefgh+\x80\x00\x0c\x80\x00\x08"},
	}
	for _, c := range cases {
		if got := string(mustComeBack(t, []byte(c.b))); got != c.want {
			t.Errorf("%s: %x, not %x", c.name, got, c.want)
		}
	}
}

func TestSqueezeReaches4096AndNoFurther(t *testing.T) {
	for _, length := range []int{4, 5, 66, 67, 70} {
		for _, distance := range []int{255, 256, 257, 4095, 4096, 4097, 5000} {
			b := distinct(distance)
			for i := range length {
				b[i] = byte(200 + i%3*17 + i%7 + i/9)
			}
			b = append(b, b[:length]...)
			got := mustComeBack(t, b)
			if !bytes.Equal(got, squeezeAsTold(b)) {
				t.Fatalf("%d bytes, %d ahead", length, distance)
			}
			n := min(length, 67)
			piece := []byte{byte(124 + n), byte((distance - 1) / 256), byte((distance - 1) % 256)}
			if found := bytes.Contains(got, piece); found != (distance <= 4096) {
				t.Errorf("%d bytes, %d ahead: a copy is %v", length, distance, found)
			}
		}
	}
}

// A nearer copy of the window is taken when the longer one lies a byte too far.
func TestSqueezeTakesTheNearerWhereTheLongerIsTooFar(t *testing.T) {
	for _, distance := range []int{4096, 4097} {
		b := distinct(distance)
		copy(b, "QRSTUVW")
		copy(b[2000:], "QRSTU!!")
		b = append(b, "QRSTUVW"...)
		got := mustComeBack(t, b)
		far := bytes.HasSuffix(got, []byte{124 + 7, 15, 255})
		near := bytes.Contains(got, []byte{124 + 5, byte((distance - 2001) / 256), byte((distance - 2001) % 256)})
		if far != (distance == 4096) || near != (distance == 4097) {
			t.Errorf("%d ahead: far %v, near %v", distance, far, near)
		}
	}
}

func TestSqueezeIsAsTold(t *testing.T) {
	r := rand.New(rand.NewSource(6))
	for range 1500 {
		b := randomBytes(r, r.Intn(300), 1+r.Intn(5))
		if got := mustComeBack(t, b); !bytes.Equal(got, squeezeAsTold(b)) {
			t.Fatalf("of %x: %x", b, got)
		}
	}
	for _, kinds := range []int{1, 2, 3, 16, 256} {
		b := randomBytes(r, 9000, kinds)
		if got := mustComeBack(t, b); !bytes.Equal(got, squeezeAsTold(b)) {
			t.Fatalf("of many bytes of %d kinds", kinds)
		}
	}
	for range 40 {
		b := patchwork(r, 6000)
		if got := mustComeBack(t, b); !bytes.Equal(got, squeezeAsTold(b)) {
			t.Fatalf("of a patchwork %.200x", b)
		}
	}
}

// patchwork: new bytes and runs of what is there already, from near and far, by turns.
func patchwork(r *rand.Rand, length int) []byte {
	b := randomBytes(r, 20, 256)
	for len(b) < length {
		if r.Intn(3) == 0 {
			b = append(b, randomBytes(r, 1+r.Intn(150), 256)...)
			continue
		}
		from := r.Intn(len(b))
		for range 1 + r.Intn(140) {
			b = append(b, b[from])
			from++
		}
	}
	return b[:length]
}

func TestSqueezeOfMaxBytes(t *testing.T) {
	r := rand.New(rand.NewSource(7))
	most := map[string][]byte{
		"alike":     make([]byte, impl.MaxBytes),
		"random":    randomBytes(r, impl.MaxBytes, 256),
		"two kinds": randomBytes(r, impl.MaxBytes, 2),
		"patchwork": patchwork(r, impl.MaxBytes),
		"by turns":  bytes.Repeat([]byte("abcdef"), impl.MaxBytes/6),
	}
	for name, b := range most {
		if got := mustComeBack(t, b); len(got) == 0 {
			t.Errorf("%s: nothing", name)
		}
		if got := impl.Squeeze(append(bytes.Clone(b), 'x')); len(got) != 0 {
			t.Errorf("%s and one more: %d bytes", name, len(got))
		}
		if got := mustComeBack(t, b[1:]); len(got) == 0 {
			t.Errorf("%s but one: nothing", name)
		}
	}
	if got := impl.Squeeze(make([]byte, 10*impl.MaxBytes)); len(got) != 0 {
		t.Errorf("ten times as many: %d bytes", len(got))
	}
}

func TestSqueezeLooksNotBehindTheLength(t *testing.T) {
	room := []byte("abcdabcd")
	if got := string(impl.Squeeze(room[:7])); got != "\x06abcdabc" {
		t.Errorf("squeezed %x", got)
	}
	pieces := []byte("\x02abc")
	if out, ok := impl.Expand(pieces[:3], 10); ok || len(out) != 0 {
		t.Error("a piece went on behind the length")
	}
	if out, ok := impl.Expand([]byte("\x00a\x80\x00\x00")[:4], 10); ok || len(out) != 0 {
		t.Error("a copy went on behind the length")
	}
}

func TestExpandRefuses(t *testing.T) {
	cases := []struct {
		name, b string
		most    int
	}{
		{"a byte above 191", "\xc0\x00\x00", 100},
		{"a byte above 191 with bytes there", "\x04abcde\xc0\x00\x00", 100},
		{"the byte 255", "\x04abcde\xff\x00\x00", 100},
		{"a byte above 191 behind a copy", "\x00a\x80\x00\x00\xc0", 100},
		{"no plain byte", "\x00", 100},
		{"plain bytes too few", "\x05abcde", 100},
		{"127 of 128 plain bytes", "\x7f" + strings.Repeat("a", 127), 1000},
		{"a copy without distance", "\x00a\x80", 100},
		{"a copy with half a distance", "\x00a\x80\x00", 100},
		{"a copy of nothing", "\x80\x00\x00", 100},
		{"a distance of 2 behind 1", "\x00a\x80\x00\x01", 100},
		{"a distance of 257 behind 1", "\x00a\x80\x01\x00", 100},
		{"a distance of 65536 behind 1", "\x00a\x80\xff\xff", 100},
		{"a distance ahead of the first in a later copy", "\x00a\x80\x00\x00\x80\x00\x05", 100},
		{"more plain bytes than most", "\x02abc", 2},
		{"a copy beyond most", "\x00a\x80\x00\x00", 4},
		{"a long copy beyond most", "\x00a\xbf\x00\x00", 67},
		{"anything where most is 0", "\x00a", 0},
		{"most below 0", "\x00a", -1},
		{"most below 0, no pieces", "", -1},
		{"most far below 0", "", math.MinInt},
		{"most above MaxBytes", "\x00a", impl.MaxBytes + 1},
		{"most above MaxBytes, no pieces", "", impl.MaxBytes + 1},
		{"most far above MaxBytes", "\x00a", math.MaxInt},
	}
	for _, c := range cases {
		if out, ok := impl.Expand([]byte(c.b), c.most); ok || len(out) != 0 {
			t.Errorf("%s: %x %v", c.name, out, ok)
		}
	}
}

func TestExpandTakes(t *testing.T) {
	long := strings.Repeat("0123456789", 1000)
	var plain []byte
	for rest := long; len(rest) > 0; rest = rest[100:] {
		plain = append(append(plain, 99), rest[:100]...)
	}
	cases := []struct {
		name, b string
		most    int
		want    string
	}{
		{"no pieces", "", 0, ""},
		{"no pieces, MaxBytes", "", impl.MaxBytes, ""},
		{"just most", "\x02abc", 3, "abc"},
		{"just most by a copy", "\x00a\x80\x00\x00", 5, "aaaaa"},
		{"the byte 127", "\x7f" + long[:128], 128, long[:128]},
		{"the byte 191", "\x00a\xbf\x00\x00", 68, strings.Repeat("a", 68)},
		{"a distance to the first byte", "\x03abcd\x81\x00\x03", 100, "abcdabcda"},
		{"a distance beyond 4096", string(plain) + "\x80\x27\x0f", 10004, long + "0123"},
		{"short pieces where longer ones might be", "\x00a\x00a\x00a\x00a\x00a", 5, "aaaaa"},
		{"a farther copy than need be", "\x0bwxyz.wxyz-ab\x80\x00\x0b", 100, "wxyz.wxyz-abwxyz"},
	}
	for _, c := range cases {
		if out, ok := impl.Expand([]byte(c.b), c.most); !ok || string(out) != c.want {
			t.Errorf("%s: %.80x %v", c.name, out, ok)
		}
	}
}

// expandAsTold is told apart from Expand by having no limits but the document's, asked one by one.
func expandAsTold(b []byte, most int) ([]byte, bool) {
	var out []byte
	for len(b) > 0 {
		head := int(b[0])
		b = b[1:]
		if head > 191 {
			return nil, false
		}
		if head < 128 {
			if head+1 > len(b) {
				return nil, false
			}
			out = append(out, b[:head+1]...)
			b = b[head+1:]
			continue
		}
		if len(b) < 2 || int(b[0])<<8+int(b[1])+1 > len(out) {
			return nil, false
		}
		from := len(out) - (int(b[0])<<8 + int(b[1]) + 1)
		for i := range head - 124 {
			out = append(out, out[from+i])
		}
		b = b[2:]
	}
	if len(out) > most {
		return nil, false
	}
	return out, true
}

func TestExpandIsAsTold(t *testing.T) {
	r := rand.New(rand.NewSource(8))
	taken := 0
	for range 30000 {
		b := make([]byte, r.Intn(30))
		for i := range b {
			b[i] = []byte{0, 0, 1, 2, 3, 4, 0x80, 0x81, 0xbf, 0xc0, byte(r.Intn(256))}[r.Intn(11)]
		}
		most := r.Intn(90)
		out, ok := impl.Expand(b, most)
		want, wantOk := expandAsTold(b, most)
		if ok != wantOk || !bytes.Equal(out, want) {
			t.Fatalf("Expand(%x, %d) is %x %v", b, most, out, ok)
		}
		if ok {
			taken++
		}
	}
	if taken < 1000 {
		t.Error("too few were taken to tell anything:", taken)
	}
}

// One byte of pieces turned may tell other bytes or none, but never more than most.
func TestExpandOfTurnedPieces(t *testing.T) {
	r := rand.New(rand.NewSource(9))
	b := patchwork(r, 700)
	squeezed := impl.Squeeze(b)
	for i := range squeezed {
		for range 8 {
			turned := bytes.Clone(squeezed)
			turned[i] ^= byte(1 + r.Intn(255))
			out, ok := impl.Expand(turned, len(b))
			want, wantOk := expandAsTold(turned, len(b))
			if ok != wantOk || !bytes.Equal(out, want) || len(out) > len(b) {
				t.Fatalf("byte %d turned: %v", i, ok)
			}
		}
	}
}
