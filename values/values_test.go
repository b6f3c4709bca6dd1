package values

import (
	"bytes"
	"math"
	"slices"
	"strconv"
	"strings"
	"testing"

	"lysimeter/api"
)

func check[T comparable](t *testing.T, promise, name string, got, want T) {
	t.Helper()
	if got != want {
		t.Errorf("%s: %s: %#v, want %#v", promise, name, got, want)
	}
}

func checkBytes(t *testing.T, promise, name string, got, want []byte) {
	t.Helper()
	if !bytes.Equal(got, want) {
		t.Errorf("%s: %s: %08b, want %08b", promise, name, got, want)
	}
}

func checkNumbers(t *testing.T, promise, name string, got, want []int) {
	t.Helper()
	if !slices.Equal(got, want) {
		t.Errorf("%s: %s: %v, want %v", promise, name, got, want)
	}
}

// ofText is the bytes of bits that are written as 0 and 1; blanks are for the eye.
func ofText(text string) []byte {
	text = strings.ReplaceAll(text, " ", "")
	for len(text)%8 != 0 {
		text += "0"
	}
	var out []byte
	for ; text != ""; text = text[8:] {
		one, err := strconv.ParseUint(text[:8], 2, 8)
		if err != nil {
			panic(err)
		}
		out = append(out, byte(one))
	}
	return out
}

// digits are the lowest n bits of v.
func digits(v, n int) string {
	out := ""
	for i := n - 1; i >= 0; i-- {
		out += strconv.Itoa(int(uint64(v) >> i & 1))
	}
	return out
}

// plainText is a second way to the bits of numbers, by their digits.
func plainText(l []int) string {
	text, open, ahead, behind := "", false, 0, 0
	for i, one := range l {
		if i == 0 {
			text += digits(one, 64)
			continue
		}
		x := digits(one^l[i-1], 64)
		if !strings.Contains(x, "1") {
			text += "0"
			continue
		}
		z := min(31, strings.Index(x, "1"))
		t := 63 - strings.LastIndex(x, "1")
		if open && z >= ahead && t >= behind {
			text += "10" + x[ahead:64-behind]
			continue
		}
		open, ahead, behind = true, z, t
		text += "11" + digits(z, 5) + digits(64-z-t-1, 6) + x[z:64-t]
	}
	return text
}

// plainPack is the bytes of plainText.
func plainPack(l []int) []byte {
	return ofText(plainText(l))
}

// changed are numbers from 0 on, each of which is the one ahead but for such bits.
func changed(changes ...uint64) []int {
	out := []int{0}
	for i, x := range changes {
		out = append(out, int(uint64(out[i])^x))
	}
	return out
}

// lists are numbers whose changes are all that the promise tells apart.
func lists() [][]int {
	out := [][]int{
		nil, {5}, {-5}, {5, 5, 5}, {1, 2, 3, 4}, {0, -1, 0, 1}, {api.Most, api.Least, 0},
		{math.MinInt, math.MaxInt, math.MinInt}, {math.MinInt, 0}, {0, math.MinInt, -1, 1},
		make([]int, api.MaxChunk),
	}
	for i := range 64 {
		for _, k := range []int{0, 1, 30, 31, 32, 33, 62, 63} {
			one, other := uint64(1)<<i, uint64(1)<<k
			out = append(out, changed(one, other, one|other, one), changed(one|other, one, other), changed(one|1<<10, other))
		}
	}
	return out
}

func TestP701Pack(t *testing.T) {
	zero := digits(0, 64)
	for _, c := range []struct {
		name string
		l    []int
		want string
	}{
		{"the document's", []int{1, 1}, digits(1, 64) + "0"},
		{"none", nil, ""},
		{"one", []int{10}, digits(10, 64)},
		{"one below 0", []int{-2}, digits(-2, 64)},
		{"the greatest", []int{math.MaxInt}, "0" + strings.Repeat("1", 63)},
		{"the least", []int{math.MinInt}, "1" + strings.Repeat("0", 63)},
		{"the same, over and over", []int{-3, -3, -3, -3}, digits(-3, 64) + "000"},
		{"all bits", changed(1<<64 - 1), zero + "11 00000 111111" + strings.Repeat("1", 64)},
		{"both ends", changed(1<<63 | 1), zero + "11 00000 111111 1" + strings.Repeat("0", 62) + "1"},
		{"the highest", changed(1 << 63), zero + "11 00000 000000 1"},
		{"the lowest: 31 zeros ahead", changed(1), zero + "11 11111 100000" + digits(1, 33)},
		{"30 zeros ahead", changed(1 << 33), zero + "11 11110 000000 1"},
		{"31 zeros ahead", changed(1 << 32), zero + "11 11111 000000 1"},
		{"32 zeros ahead", changed(1 << 31), zero + "11 11111 000001 01"},
		{"zeros behind", changed(0b101 << 8), zero + "11 11111 011000" + digits(0b101, 25)},
		{"the same window", changed(0b11<<40, 0b11<<40), zero + "11 10110 000001 11" + "10 11"},
		{"within the window", changed(0b1001<<40, 0b0110<<40), zero + "11 10100 000011 1001" + "10 0110"},
		{"above the window", changed(0b11<<40, 0b100<<40), zero + "11 10110 000001 11" + "11 10101 000000 1"},
		{"below the window", changed(0b110<<40, 0b1<<40), zero + "11 10101 000001 11" + "11 10111 000000 1"},
		{"the window stays through a change of 0", changed(0b11<<40, 0, 0b01<<40), zero + "11 10110 000001 11" + "0" + "10 01"},
		{"the window is the last one's own, not the least of all", changed(0b111<<40, 0b010<<40, 0b100<<40), zero + "11 10101 000010 111" + "10 010" + "10 100"},
		{"the window behind is the new one", changed(0b1<<40, 0b10<<40, 0b1<<40), zero + "11 10111 000000 1" + "11 10110 000000 1" + "11 10111 000000 1"},
		{"a narrow window after a wide one is not opened", changed(1<<63|1, 1<<40), zero + "11 00000 111111 1" + strings.Repeat("0", 62) + "1" + "10" + digits(1<<40, 64)},
		{"31 zeros ahead do for more", changed(0b11<<31, 1<<31), zero + "11 11111 000001 11" + "10 01"},
		{"no window ahead of the first change", changed(0, 1<<63), zero + "0" + "11 00000 000000 1"},
		{"from the least to the greatest", []int{math.MinInt, math.MaxInt}, digits(math.MinInt, 64) + "11 00000 111111" + strings.Repeat("1", 64)},
	} {
		b, errno := Pack(c.l)
		check(t, "P701", c.name, errno, api.OK)
		checkBytes(t, "P701", c.name, b, ofText(c.want))
	}
	for _, l := range lists() {
		b, errno := Pack(l)
		check(t, "P701", "by the digits", errno, api.OK)
		checkBytes(t, "P701", "by the digits", b, plainPack(l))
	}
}

func TestP701Wrong(t *testing.T) {
	b, errno := Pack(make([]int, api.MaxChunk))
	check(t, "P701", "as many as may be", errno, api.OK)
	check(t, "P701", "as many as may be: bytes", len(b), 8+15)
	for _, n := range []int{api.MaxChunk + 1, api.MaxChunk + 2, 10 * api.MaxChunk} {
		b, errno := Pack(make([]int, n))
		check(t, "P701", "more", errno, api.ErrLong)
		check(t, "P701", "more: bytes", len(b), 0)
	}
}

func TestP702Unpack(t *testing.T) {
	for _, l := range lists() {
		b := plainPack(l)
		got, errno := Unpack(b, len(l))
		check(t, "P702", "there and back", errno, api.OK)
		checkNumbers(t, "P702", "there and back", got, l)
		refused(t, "a byte behind", append(bytes.Clone(b), 0), len(l))
		refused(t, "another byte behind", append(bytes.Clone(b), 255), len(l))
		for cut := range len(b) {
			refused(t, "cut off", b[:cut], len(l))
		}
	}
}

// What is left of the last byte reads as changes of 0 as well: it is the number that tells how many of them count.
func TestP702NumberTells(t *testing.T) {
	b := plainPack([]int{7, 7})
	for n := 2; n <= 9; n++ {
		l, errno := Unpack(b, n)
		check(t, "P702", "as many as fit the last byte", errno, api.OK)
		checkNumbers(t, "P702", "as many as fit the last byte", l, slices.Repeat([]int{7}, n))
	}
	for _, n := range []int{0, 1, 10, api.MaxChunk} {
		refused(t, "fewer than the bytes need, or more than they have", b, n)
	}
}

// refused checks that no n numbers are told by the bytes.
func refused(t *testing.T, name string, b []byte, n int) {
	t.Helper()
	got, errno := Unpack(b, n)
	check(t, "P702", name, errno, api.ErrByte)
	check(t, "P702", name+": numbers", len(got), 0)
}

func TestP702Wrong(t *testing.T) {
	zero := digits(0, 64)
	for _, c := range []struct {
		name string
		text string
		n    int
	}{
		{"no bytes", "", 1},
		{"too few for the first", digits(0, 56), 1},
		{"bytes of none", "00000000", 0},
		{"a byte behind", zero + digits(0, 8), 1},
		{"a bit behind that is not 0", zero + "0000 0001", 2},
		{"the next bit behind", zero + "01", 2},
		{"no mark", zero, 2},
		{"half a mark", zero + "0000 0001", 9},
		{"no window", zero + "10", 2},
		{"no window, and bits enough for any", zero + "10" + digits(-1, 64), 2},
		{"no window, later", zero + "0 10" + digits(-1, 64), 3},
		{"a window cut off", zero + "11 11111 1", 2},
		{"a window, and nothing of it", zero + "11 00000 111 000", 2},
		{"its bits cut off", zero + "11 00000 111111" + strings.Repeat("1", 51), 2},
		{"more bits than a number has", zero + "11 00001 111111" + digits(-1, 64), 2},
		{"many more", zero + "11 11111 111111" + digits(-1, 64), 2},
		{"one more", zero + "11 11111 100001" + strings.Repeat("1", 34), 2},
		{"a change of 0 in a window of its own", zero + "11 10110 000001 00", 2},
		{"a change of 0 in the old window", zero + "11 10110 000001 11" + "10 00", 3},
		{"a 0 ahead that is not counted", zero + "11 10110 000001 01", 2},
		{"a 0 behind that is not counted", zero + "11 10110 000001 10", 2},
		{"30 zeros ahead of the lowest", zero + "11 11110 100001" + digits(1, 34), 2},
		{"the same window anew", zero + "11 10110 000001 11" + "11 10110 000001 11", 3},
		{"a narrower window anew", zero + "11 10110 000001 11" + "11 10110 000000 1", 3},
	} {
		refused(t, c.name, ofText(c.text), c.n)
	}
}

func TestP702Number(t *testing.T) {
	good := plainPack(make([]int, api.MaxChunk))
	for _, c := range []struct {
		name string
		b    []byte
		n    int
		want api.Errno
	}{
		{"none of nothing", nil, 0, api.OK},
		{"none of an empty list", []byte{}, 0, api.OK},
		{"one of nothing", nil, 1, api.ErrByte},
		{"as many as may be of nothing", nil, api.MaxChunk, api.ErrByte},
		{"as many as may be", good, api.MaxChunk, api.OK},
		{"one more", append(bytes.Clone(good), 0), api.MaxChunk + 1, api.ErrLong},
		{"one more of nothing", nil, api.MaxChunk + 1, api.ErrLong},
		{"the greatest", good, math.MaxInt, api.ErrLong},
		{"below 0", good, -1, api.ErrArg},
		{"below 0 of nothing", nil, -1, api.ErrArg},
		{"the least", nil, math.MinInt, api.ErrArg},
	} {
		l, errno := Unpack(c.b, c.n)
		check(t, "P702", c.name, errno, c.want)
		check(t, "P702", c.name+": numbers", len(l) > 0, c.want == api.OK && c.n > 0)
	}
}

func TestP703Same(t *testing.T) {
	l := []int{10, 20, 30, -99}
	first, _ := Pack(l)
	back, _ := Unpack(first, 4)
	Pack([]int{7, 8})
	Unpack([]byte{1}, 1)
	second, _ := Pack(l)
	checkBytes(t, "P703", "packed again", second, first)
	again, _ := Unpack(first, 4)
	checkNumbers(t, "P703", "unpacked again", again, back)
}

func TestP703NewMemory(t *testing.T) {
	room := []int{10, 20, 30, 1, 2, 3}
	l := room[:3]
	want, _ := Pack(l)
	b, _ := Pack(l)
	clear(b[:cap(b)])
	checkNumbers(t, "P703", "the numbers stay, their spare room too", room, []int{10, 20, 30, 1, 2, 3})
	b, _ = Pack(l)
	checkBytes(t, "P703", "what was answered is spoilt", b, want)

	spare := append(bytes.Clone(want), 1, 2, 3)
	got, _ := Unpack(spare[:len(want)], 3)
	clear(got[:cap(got)])
	checkBytes(t, "P703", "the bytes stay, their spare room too", spare, append(bytes.Clone(want), 1, 2, 3))
	got, _ = Unpack(want, 3)
	clear(want)
	checkNumbers(t, "P703", "the bytes are not kept", got, []int{10, 20, 30})
}
