package stamps

import (
	"bytes"
	"math"
	"slices"
	"strconv"
	"strings"
	"testing"

	"lysimeter/api"
)

func check[T comparable](t *testing.T, promise, name string, got, want T) {
	t.Helper()
	if got != want {
		t.Errorf("%s: %s: %#v, want %#v", promise, name, got, want)
	}
}

func checkBytes(t *testing.T, promise, name string, got, want []byte) {
	t.Helper()
	if !bytes.Equal(got, want) {
		t.Errorf("%s: %s: %08b, want %08b", promise, name, got, want)
	}
}

func checkTimes(t *testing.T, promise, name string, got, want []int) {
	t.Helper()
	if !slices.Equal(got, want) {
		t.Errorf("%s: %s: %v, want %v", promise, name, got, want)
	}
}

// ofText is the bytes of bits that are written as 0 and 1; blanks are for the eye.
func ofText(text string) []byte {
	text = strings.ReplaceAll(text, " ", "")
	for len(text)%8 != 0 {
		text += "0"
	}
	var out []byte
	for ; text != ""; text = text[8:] {
		one, err := strconv.ParseUint(text[:8], 2, 8)
		if err != nil {
			panic(err)
		}
		out = append(out, byte(one))
	}
	return out
}

// digits are the lowest n bits of v.
func digits(v, n int) string {
	out := ""
	for i := n - 1; i >= 0; i-- {
		out += strconv.Itoa(int(uint64(v) >> i & 1))
	}
	return out
}

// plainChange is a change as the chapter tells it, written down by hand.
func plainChange(e int) string {
	switch {
	case e == 0:
		return "0"
	case -63 <= e && e <= 64:
		return "10" + digits(e+63, 7)
	case -255 <= e && e <= 256:
		return "110" + digits(e+255, 9)
	case -2047 <= e && e <= 2048:
		return "1110" + digits(e+2047, 12)
	}
	return "1111" + digits(e, 64)
}

// plainPack is a second way to the bytes of times.
func plainPack(l []int) []byte {
	text := ""
	for i, one := range l {
		switch i {
		case 0:
			text += digits(one, 64)
		case 1:
			text += plainChange(one - l[0])
		default:
			text += plainChange(one - 2*l[i-1] + l[i-2])
		}
	}
	return ofText(text)
}

// evenly are n times from a first one, each so far from the one ahead.
func evenly(n, first, gap int) []int {
	var out []int
	for i := range n {
		out = append(out, first+i*gap)
	}
	return out
}

// edges are the changes about the bounds of the widths.
func edges() []int {
	var out []int
	for _, n := range []int{0, 63, 64, 255, 256, 2047, 2048, 1 << 40} {
		for d := -1; d <= 1; d++ {
			out = append(out, n+d, -n+d)
		}
	}
	return out
}

// changed are times of which the third one's change is e.
func changed(e int) []int {
	const gap = 1 << 41
	return []int{-5, gap - 5, 2*gap + e - 5}
}

func TestP601Pack(t *testing.T) {
	zero := digits(0, 64)
	far := zero + plainChange(1<<41)
	for _, c := range []struct {
		name string
		l    []int
		want string
	}{
		{"the document's", []int{10, 20, 30}, digits(10, 64) + "10 1001001 0"},
		{"none", nil, ""},
		{"one", []int{10}, digits(10, 64)},
		{"one below 0", []int{-2}, digits(-2, 64)},
		{"the least", []int{-api.MaxTime}, digits(-1<<53, 64)},
		{"the greatest", []int{api.MaxTime}, digits(1<<53, 64)},
		{"the second: less 0", []int{0, 1}, zero + "10 1000000"},
		{"the greatest of 7 bits", []int{0, 64}, zero + "10 1111111"},
		{"the least of 9 bits above 0", []int{0, 65}, zero + "110 101000000"},
		{"the greatest of 9 bits", []int{0, 256}, zero + "110 111111111"},
		{"the least of 12 bits above 0", []int{0, 257}, zero + "1110 100100000000"},
		{"the greatest of 12 bits", []int{0, 2048}, zero + "1110 111111111111"},
		{"the least of 64 bits above 0", []int{0, 2049}, zero + "1111" + digits(2049, 64)},
		{"the same gap again", []int{0, 1 << 41, 1 << 42}, far + "0"},
		{"-1", []int{0, 1 << 41, 1<<42 - 1}, far + "10 0111110"},
		{"the least of 7 bits", []int{0, 1 << 41, 1<<42 - 63}, far + "10 0000000"},
		{"the greatest of 9 bits below 0", []int{0, 1 << 41, 1<<42 - 64}, far + "110 010111111"},
		{"the least of 9 bits", []int{0, 1 << 41, 1<<42 - 255}, far + "110 000000000"},
		{"the greatest of 12 bits below 0", []int{0, 1 << 41, 1<<42 - 256}, far + "1110 011011111111"},
		{"the least of 12 bits", []int{0, 1 << 41, 1<<42 - 2047}, far + "1110 000000000000"},
		{"the greatest of 64 bits below 0", []int{0, 1 << 41, 1<<42 - 2048}, far + "1111" + digits(-2048, 64)},
		{"from one end to the other", []int{-api.MaxTime, api.MaxTime}, digits(-1<<53, 64) + "1111" + digits(1<<54, 64)},
		{"the greatest change down", []int{-api.MaxTime, api.MaxTime - 1, api.MaxTime}, digits(-1<<53, 64) + "1111" + digits(1<<54-1, 64) + "1111" + digits(2-1<<54, 64)},
		{"each change off the gap ahead, not off the second's", []int{0, 1, 3, 6, 10}, zero + strings.Repeat("10 1000000", 4)},
	} {
		b, errno := Pack(c.l)
		check(t, "P601", c.name, errno, api.OK)
		checkBytes(t, "P601", c.name, b, ofText(c.want))
	}
	for _, e := range edges() {
		b, errno := Pack(changed(e))
		check(t, "P601", "about the bounds", errno, api.OK)
		checkBytes(t, "P601", "about the bounds", b, plainPack(changed(e)))
	}
}

func TestP601Wrong(t *testing.T) {
	long := evenly(api.MaxChunk+1, 0, 1)
	for _, c := range []struct {
		name string
		l    []int
		want api.Errno
	}{
		{"as many as may be", long[:api.MaxChunk], api.OK},
		{"one more", long, api.ErrLong},
		{"more, and not rising: the first error", make([]int, api.MaxChunk+1), api.ErrLong},
		{"more, and out of bounds: the first error", slices.Concat(long, []int{math.MaxInt}), api.ErrLong},
		{"too great", []int{api.MaxTime + 1}, api.ErrTime},
		{"too small", []int{-api.MaxTime - 1}, api.ErrTime},
		{"the greatest int", []int{math.MaxInt}, api.ErrTime},
		{"the least int", []int{math.MinInt}, api.ErrTime},
		{"the last one too great", []int{1, 2, api.MaxTime + 1}, api.ErrTime},
		{"a gap that wraps round", []int{math.MinInt, math.MaxInt}, api.ErrTime},
		{"the same again", []int{1, 1}, api.ErrTime},
		{"falling", []int{2, 1}, api.ErrTime},
		{"falling in the end", []int{1, 2, 3, 2}, api.ErrTime},
		{"above the first, not above the one ahead", []int{1, 9, 5}, api.ErrTime},
	} {
		b, errno := Pack(c.l)
		check(t, "P601", c.name, errno, c.want)
		check(t, "P601", c.name+": bytes", len(b) > 0, c.want == api.OK)
	}
}

func TestP602Unpack(t *testing.T) {
	lists := [][]int{
		nil, {5}, {-api.MaxTime}, {-api.MaxTime, api.MaxTime}, {-api.MaxTime, api.MaxTime - 1, api.MaxTime},
		{-7, -6, -5, -4}, {0, 1, 65, 66, 321, 2400, 1 << 40, 1<<40 + 1}, {0, 5000, 10000, 10001},
		evenly(api.MaxChunk, -50, 15), evenly(api.MaxChunk, 1<<50, 1<<40),
	}
	for _, e := range edges() {
		lists = append(lists, changed(e))
	}
	for _, l := range lists {
		b := plainPack(l)
		got, errno := Unpack(b, len(l))
		check(t, "P602", "there and back", errno, api.OK)
		checkTimes(t, "P602", "there and back", got, l)
		refused(t, "a byte behind", append(bytes.Clone(b), 0), len(l))
		refused(t, "another byte behind", append(bytes.Clone(b), 255), len(l))
		for cut := range len(b) {
			refused(t, "cut off", b[:cut], len(l))
		}
	}
}

// What is left of the last byte reads as changes of 0 as well: it is the number that tells how many of them count.
func TestP602NumberTells(t *testing.T) {
	b := plainPack([]int{0, 1})
	for n := 2; n <= 9; n++ {
		l, errno := Unpack(b, n)
		check(t, "P602", "as many as fit the last byte", errno, api.OK)
		checkTimes(t, "P602", "as many as fit the last byte", l, evenly(n, 0, 1))
	}
	for _, n := range []int{0, 1, 10, api.MaxChunk} {
		refused(t, "fewer than the bytes need, or more than they have", b, n)
	}
}

// refused checks that no n times are told by the bytes.
func refused(t *testing.T, name string, b []byte, n int) {
	t.Helper()
	got, errno := Unpack(b, n)
	check(t, "P602", name, errno, api.ErrByte)
	check(t, "P602", name+": times", len(got), 0)
}

func TestP602Wrong(t *testing.T) {
	zero := digits(0, 64)
	for _, c := range []struct {
		name string
		text string
		n    int
	}{
		{"no bytes", "", 1},
		{"too few for the first", digits(0, 56), 1},
		{"bytes of none", "00000000", 0},
		{"the first too great", digits(1<<53+1, 64), 1},
		{"the first too small", digits(-1<<53-1, 64), 1},
		{"the first the greatest int", digits(math.MaxInt, 64), 1},
		{"a byte behind", zero + digits(0, 8), 1},
		{"the same again", zero + "0", 2},
		{"falling", zero + "10 0111110", 2},
		{"falling later", digits(9, 64) + "10 1000001" + "10 0111100", 3},
		{"too great later", digits(1<<53, 64) + "10 1000000", 2},
		{"a bit behind that is not 0", zero + "10 1000000 0000001", 2},
		{"the next to the last bit", zero + "10 1000000 01", 2},
		{"the mark cut off", zero + "10 1000000" + "1110 000000000" + "111", 4},
		{"a change cut off", zero + "1110 1000", 2},
		{"no mark", zero, 2},
		{"0 in 7 bits", zero + "10 1000000" + "10 0111111", 3},
		{"0 in 9 bits", zero + "10 1000000" + "110 011111111", 3},
		{"0 in 12 bits", zero + "10 1000000" + "1110 011111111111", 3},
		{"0 in 64 bits", zero + "10 1000000" + "1111" + zero, 3},
		{"1 in 9 bits", zero + "110 100000000", 2},
		{"64 in 9 bits", zero + "110 100111111", 2},
		{"1 in 12 bits", zero + "1110 100000000000", 2},
		{"256 in 12 bits", zero + "1110 100011111111", 2},
		{"1 in 64 bits", zero + "1111" + digits(1, 64), 2},
		{"2048 in 64 bits", zero + "1111" + digits(2048, 64), 2},
		{"-63 in 9 bits", zero + plainChange(500) + "110 011000000", 3},
		{"-255 in 12 bits", zero + plainChange(500) + "1110 011100000000", 3},
		{"-2047 in 64 bits", zero + plainChange(5000) + "1111" + digits(-2047, 64), 3},
		{"a gap of all bits", zero + "1111" + digits(-1, 64), 2},
		{"numbers that wrap round", zero + "1111" + digits(math.MaxInt, 64) + "1111" + digits(math.MinInt+3, 64), 3},
		{"a time that wraps round", digits(5, 64) + "1111" + digits(math.MinInt, 64) + "1111" + digits(math.MinInt+1, 64), 3},
	} {
		refused(t, c.name, ofText(c.text), c.n)
	}
}

func TestP602Number(t *testing.T) {
	good := plainPack(evenly(api.MaxChunk, 0, 1))
	for _, c := range []struct {
		name string
		b    []byte
		n    int
		want api.Errno
	}{
		{"none of nothing", nil, 0, api.OK},
		{"none of an empty list", []byte{}, 0, api.OK},
		{"one of nothing", nil, 1, api.ErrByte},
		{"as many as may be of nothing", nil, api.MaxChunk, api.ErrByte},
		{"as many as may be", good, api.MaxChunk, api.OK},
		{"one more", good, api.MaxChunk + 1, api.ErrLong},
		{"one more of nothing", nil, api.MaxChunk + 1, api.ErrLong},
		{"the greatest", good, math.MaxInt, api.ErrLong},
		{"below 0", good, -1, api.ErrArg},
		{"below 0 of nothing", nil, -1, api.ErrArg},
		{"the least", nil, math.MinInt, api.ErrArg},
	} {
		l, errno := Unpack(c.b, c.n)
		check(t, "P602", c.name, errno, c.want)
		check(t, "P602", c.name+": times", len(l) > 0, c.want == api.OK && c.n > 0)
	}
}

func TestP603Same(t *testing.T) {
	l := []int{10, 20, 30, 99}
	first, _ := Pack(l)
	back, _ := Unpack(first, 4)
	Pack([]int{7, 8})
	Unpack([]byte{1}, 1)
	second, _ := Pack(l)
	checkBytes(t, "P603", "packed again", second, first)
	again, _ := Unpack(first, 4)
	checkTimes(t, "P603", "unpacked again", again, back)
}

func TestP603NewMemory(t *testing.T) {
	room := []int{10, 20, 30, 1, 2, 3}
	l := room[:3]
	want, _ := Pack(l)
	b, _ := Pack(l)
	clear(b[:cap(b)])
	checkTimes(t, "P603", "the times stay, their spare room too", room, []int{10, 20, 30, 1, 2, 3})
	b, _ = Pack(l)
	checkBytes(t, "P603", "what was answered is spoilt", b, want)

	spare := append(bytes.Clone(want), 1, 2, 3)
	got, _ := Unpack(spare[:len(want)], 3)
	clear(got[:cap(got)])
	checkBytes(t, "P603", "the bytes stay, their spare room too", spare, append(bytes.Clone(want), 1, 2, 3))
	got, _ = Unpack(want, 3)
	clear(want)
	checkTimes(t, "P603", "the bytes are not kept", got, []int{10, 20, 30})
}
