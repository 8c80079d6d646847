package impl

const (
	MaxName   = 20
	MaxTime   = 1000000000000
	MaxOffset = 1000000000
	MaxBytes  = 60000
)

const (
	mostGroups = 10
	groupBits  = 7
	groupMask  = 1<<groupBits - 1
	groupMore  = 1 << groupBits
)

const (
	checkRule = 3988292384
	checkBits = 4
	checkSize = 1 << checkBits
)

const (
	leastCopy    = 4
	mostCopy     = 67
	mostDistance = 4096
	mostPlain    = 128
	copyMark     = 124
	lastMark     = copyMark + mostCopy
	copyWidth    = 3
)

func NameOk(s string) bool {
	if len(s) < 1 || len(s) > MaxName || !isLetter(s[0]) {
		return false
	}
	for i := range len(s) {
		if !isNameByte(s[i]) {
			return false
		}
	}
	return true
}

func isLetter(c byte) bool {
	return c >= 'a' && c <= 'z' || c >= 'A' && c <= 'Z'
}

func isDigit(c byte) bool {
	return c >= '0' && c <= '9'
}

func isNameByte(c byte) bool {
	return isLetter(c) || isDigit(c) || c == '_'
}

func PutInt(n int) []byte {
	u := foldSign(n)
	groups := []byte{}
	for u > groupMask {
		groups = append(groups, byte(u&groupMask)|groupMore)
		u >>= groupBits
	}
	return append(groups, byte(u))
}

func GetInt(b []byte, at int) (int, int, bool) {
	if at < 0 || at > len(b) {
		return 0, 0, false
	}
	u := uint64(0)
	for i, group := range b[at:] {
		// The tenth group has room for one bit alone, so it can't be followed either.
		if i == mostGroups-1 && group > 1 {
			return 0, 0, false
		}
		u |= uint64(group&groupMask) << uint(groupBits*i)
		if group < groupMore {
			// A last group of nought could have been left out.
			if group == 0 && i > 0 {
				return 0, 0, false
			}
			return unfoldSign(u), at + i + 1, true
		}
	}
	return 0, 0, false
}

// The complement of 2 n is -2 n - 1, and unlike that product it can't leave the 64 bits.
func foldSign(n int) uint64 {
	if n < 0 {
		return ^(uint64(n) << 1)
	}
	return uint64(n) << 1
}

func unfoldSign(u uint64) int {
	n := int(u >> 1)
	if u&1 == 1 {
		return ^n
	}
	return n
}

func Check(b []byte) int {
	table := checkTable()
	c := ^uint32(0)
	for _, x := range b {
		c ^= uint32(x)
		c = c>>checkBits ^ table[c%checkSize]
		c = c>>checkBits ^ table[c%checkSize]
	}
	return int(^c)
}

// Half a byte a step: nothing is kept from call to call, and a table for whole bytes would cost a short list more than it saves.
func checkTable() [checkSize]uint32 {
	var table [checkSize]uint32
	for i := range table {
		c := uint32(i)
		for range checkBits {
			odd := c%2 == 1
			c /= 2
			if odd {
				c ^= checkRule
			}
		}
		table[i] = c
	}
	return table
}

func Squeeze(b []byte) []byte {
	out := []byte{}
	if len(b) > MaxBytes {
		return out
	}
	finder := copyFinder{data: b, places: map[[leastCopy]byte][]int{}}
	plain := 0
	for at := 0; at < len(b); {
		length, distance := finder.find(at)
		if length == 0 {
			finder.note(at, 1)
			at++
			continue
		}
		out = putPlain(out, b[plain:at])
		out = append(out, byte(copyMark+length), byte((distance-1)/256), byte((distance-1)%256))
		finder.note(at, length)
		at += length
		plain = at
	}
	return putPlain(out, b[plain:])
}

func putPlain(out []byte, plain []byte) []byte {
	for len(plain) > 0 {
		n := min(len(plain), mostPlain)
		out = append(out, byte(n-1))
		out = append(out, plain[:n]...)
		plain = plain[n:]
	}
	return out
}

// A copyFinder knows, of all the bytes it was told of, where each four of them stand, in order.
type copyFinder struct {
	data   []byte
	places map[[leastCopy]byte][]int
}

func (f copyFinder) key(at int) [leastCopy]byte {
	return [leastCopy]byte{f.data[at], f.data[at+1], f.data[at+2], f.data[at+3]}
}

func (f copyFinder) note(at int, count int) {
	end := min(at+count, len(f.data)-leastCopy+1)
	for i := at; i < end; i++ {
		key := f.key(i)
		f.places[key] = append(f.places[key], i)
	}
}

func (f copyFinder) find(at int) (int, int) {
	longest := min(len(f.data)-at, mostCopy)
	if longest < leastCopy {
		return 0, 0
	}
	places := f.places[f.key(at)]
	length, distance := 0, 0
	// From the nearest on, so that of the longest ones the nearest stays.
	for i := len(places) - 1; i >= 0 && length < longest; i-- {
		if at-places[i] > mostDistance {
			break
		}
		if n := f.run(places[i], at, length, longest); n > length {
			length, distance = n, at-places[i]
		}
	}
	return length, distance
}

// What is unlike at the length to beat is no longer run, which spares most of the work where many are alike.
func (f copyFinder) run(from int, at int, beat int, longest int) int {
	if f.data[from+beat] != f.data[at+beat] {
		return 0
	}
	n := 0
	for n < longest && f.data[from+n] == f.data[at+n] {
		n++
	}
	return n
}

func Expand(b []byte, most int) ([]byte, bool) {
	if most < 0 || most > MaxBytes {
		return []byte{}, false
	}
	e := expander{pieces: b, out: []byte{}, most: most}
	for len(e.pieces) > 0 {
		if !e.piece() {
			return []byte{}, false
		}
	}
	return e.out, true
}

type expander struct {
	pieces []byte
	out    []byte
	most   int
}

func (e *expander) piece() bool {
	head := int(e.pieces[0])
	if head > lastMark {
		return false
	}
	if head < mostPlain {
		return e.plain(head + 1)
	}
	return e.copied(head - copyMark)
}

func (e *expander) plain(count int) bool {
	if len(e.pieces) < 1+count || len(e.out)+count > e.most {
		return false
	}
	e.out = append(e.out, e.pieces[1:1+count]...)
	e.pieces = e.pieces[1+count:]
	return true
}

func (e *expander) copied(length int) bool {
	if len(e.pieces) < copyWidth || len(e.out)+length > e.most {
		return false
	}
	distance := int(e.pieces[1])*256 + int(e.pieces[2]) + 1
	from := len(e.out) - distance
	if from < 0 {
		return false
	}
	// Byte by byte, for a copy may take bytes that it has itself brought.
	for i := range length {
		e.out = append(e.out, e.out[from+i])
	}
	e.pieces = e.pieces[copyWidth:]
	return true
}
