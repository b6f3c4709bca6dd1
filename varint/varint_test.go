package varint

import (
	"bytes"
	"math"
	"testing"

	"lysimeter/api"
)

func check[T comparable](t *testing.T, promise, name string, got, want T) {
	t.Helper()
	if got != want {
		t.Errorf("%s: %s: %#v, want %#v", promise, name, got, want)
	}
}

func checkBytes(t *testing.T, promise, name string, got, want []byte) {
	t.Helper()
	if !bytes.Equal(got, want) {
		t.Errorf("%s: %s: %v, want %v", promise, name, got, want)
	}
}

// got is what Get or GetSigned answers.
type got struct {
	n, size int
	errno   api.Errno
}

func get(b []byte) got {
	n, size, errno := Get(b)
	return got{n, size, errno}
}

func getSigned(b []byte) got {
	n, size, errno := GetSigned(b)
	return got{n, size, errno}
}

// full is n bytes, each with all of its seven bits and another one to follow.
func full(n int) []byte {
	return bytes.Repeat([]byte{255}, n)
}

// empty is n bytes that hold nothing, each with another one to follow.
func empty(n int) []byte {
	return bytes.Repeat([]byte{128}, n)
}

func with(b []byte, more ...byte) []byte {
	return append(bytes.Clone(b), more...)
}

// edges are the numbers about each power of two, and their negatives.
func edges() []int {
	out := []int{0, 300, math.MaxInt, math.MinInt}
	for i := range 64 {
		for _, d := range []int{-1, 0, 1} {
			n := 1<<i + d
			out = append(out, n, -n)
		}
	}
	return out
}

// plainPut is a second way to the same bytes: by division, a number without a sign as its parts.
func plainPut(n uint64) []byte {
	if n < 128 {
		return []byte{byte(n)}
	}
	return append([]byte{byte(128 + n%128)}, plainPut(n/128)...)
}

func TestP501Put(t *testing.T) {
	for _, c := range []struct {
		name string
		n    int
		want []byte
	}{
		{"0: one byte", 0, []byte{0}},
		{"1", 1, []byte{1}},
		{"the most of one byte", 127, []byte{127}},
		{"the least of two", 128, []byte{128, 1}},
		{"300", 300, []byte{172, 2}},
		{"the most of two", 1<<14 - 1, []byte{255, 127}},
		{"the least of three", 1 << 14, []byte{128, 128, 1}},
		{"the lowest bits first", 1 + 2<<7 + 3<<14, []byte{129, 130, 3}},
		{"the most of eight", 1<<56 - 1, with(full(7), 127)},
		{"the least of nine", 1 << 56, with(empty(8), 1)},
		{"the greatest", math.MaxInt, with(full(8), 127)},
		{"the least: one bit, the highest", math.MinInt, with(empty(9), 1)},
		{"-1: all 64 bits", -1, with(full(9), 1)},
		{"-2", -2, with([]byte{254}, with(full(8), 1)...)},
	} {
		checkBytes(t, "P501", c.name, Put(c.n), c.want)
	}
	for _, n := range edges() {
		checkBytes(t, "P501", "a plain way", Put(n), plainPut(uint64(n)))
	}
}

func TestP501Get(t *testing.T) {
	for _, c := range []struct {
		name string
		b    []byte
		want got
	}{
		{"0", []byte{0}, got{0, 1, api.OK}},
		{"127", []byte{127}, got{127, 1, api.OK}},
		{"300", []byte{172, 2}, got{300, 2, api.OK}},
		{"what stands behind is not looked at", []byte{172, 2, 128}, got{300, 2, api.OK}},
		{"a 0 and what stands behind", []byte{0, 0}, got{0, 1, api.OK}},
		{"nothing but the top bit", with(empty(9), 1), got{math.MinInt, 10, api.OK}},
		{"all 64 bits, and more behind", with(full(9), 1, 255), got{-1, 10, api.OK}},
		{"63 bits", with(full(8), 127), got{math.MaxInt, 9, api.OK}},
		{"a byte of 0 within", []byte{128, 128, 1}, got{1 << 14, 3, api.OK}},
	} {
		check(t, "P501", c.name, get(c.b), c.want)
	}
	for _, n := range edges() {
		b := Put(n)
		check(t, "P501", "back", get(b), got{n, len(b), api.OK})
		check(t, "P501", "back, with more behind", get(with(b, 7)), got{n, len(b), api.OK})
	}
}

func TestP501GetRefuses(t *testing.T) {
	for _, c := range []struct {
		name string
		b    []byte
	}{
		{"no bytes", nil},
		{"an empty list", []byte{}},
		{"one, and another that does not come", []byte{128}},
		{"two, and another that does not come", []byte{172, 130}},
		{"nine, and another that does not come", full(9)},
		{"ten, and another that does not come", with(full(9), 129)},
		{"0 in two bytes", []byte{128, 0}},
		{"0 in three bytes", []byte{128, 128, 0}},
		{"127 in two bytes", []byte{255, 0}},
		{"300 in three bytes", []byte{172, 130, 0}},
		{"63 bits in ten bytes", with(full(9), 0)},
		{"64 bits in eleven bytes", with(full(9), 129, 0)},
		{"the 65th bit", with(empty(9), 2)},
		{"the 65th bit beside the 64th", with(full(9), 3)},
		{"the 70th bit", with(empty(9), 64)},
		{"the 71st bit", with(empty(10), 1)},
		{"many bytes that hold nothing", with(empty(1000), 1)},
		{"many bytes without an end", full(1000)},
		{"where the shift comes round to 0", with(empty(64), 1)},
	} {
		check(t, "P501", c.name, get(c.b), got{0, 0, api.ErrByte})
	}
	for _, n := range edges() {
		b := Put(n)
		for cut := range b {
			check(t, "P501", "cut short", get(b[:cut]), got{0, 0, api.ErrByte})
		}
		long := bytes.Clone(b)
		long[len(long)-1] += 128
		check(t, "P501", "a byte too many", get(with(long, 0)), got{0, 0, api.ErrByte})
	}
}

func TestP501EachPairOfBytes(t *testing.T) {
	for low := range 256 {
		for high := range 256 {
			want := got{low, 1, api.OK}
			if low >= 128 {
				want = got{low - 128 + 128*high, 2, api.OK}
				if high == 0 || high >= 128 {
					want = got{0, 0, api.ErrByte}
				}
			}
			check(t, "P501", "a pair", get([]byte{byte(low), byte(high)}), want)
		}
	}
}

func TestP502ZigZag(t *testing.T) {
	for _, c := range []struct{ n, zig int }{
		{0, 0}, {-1, 1}, {1, 2}, {-2, 3}, {2, 4}, {63, 126}, {-64, 127}, {64, 128},
		{1 << 62, math.MinInt}, {-1 << 62, math.MaxInt}, {1<<62 - 1, math.MaxInt - 1}, {-1<<62 - 1, math.MinInt + 1},
		{math.MaxInt, -2}, {math.MinInt, -1}, {math.MinInt + 1, -3},
	} {
		check(t, "P502", "Zig", Zig(c.n), c.zig)
		check(t, "P502", "Zag", Zag(c.zig), c.n)
	}
	for _, n := range edges() {
		want := 2 * n // wraps round as 64 bits do
		if n < 0 {
			want = -2*n - 1
		}
		check(t, "P502", "Zig by its rule", Zig(n), want)
		check(t, "P502", "Zag of Zig", Zag(Zig(n)), n)
		check(t, "P502", "Zig of Zag", Zig(Zag(n)), n)
	}
}

func TestP502Signed(t *testing.T) {
	checkBytes(t, "P502", "0", Signed(0), []byte{0})
	checkBytes(t, "P502", "-1", Signed(-1), []byte{1})
	checkBytes(t, "P502", "-64", Signed(-64), []byte{127})
	checkBytes(t, "P502", "64", Signed(64), []byte{128, 1})
	checkBytes(t, "P502", "150", Signed(150), []byte{172, 2})
	checkBytes(t, "P502", "the least", Signed(math.MinInt), with(full(9), 1))
	for _, n := range edges() {
		b := Signed(n)
		checkBytes(t, "P502", "Put of Zig", b, Put(Zig(n)))
		check(t, "P502", "back", getSigned(b), got{n, len(b), api.OK})
		check(t, "P502", "back, with more behind", getSigned(with(b, 255)), got{n, len(b), api.OK})
	}
	check(t, "P502", "-2 of a 3", getSigned([]byte{3}), got{-2, 1, api.OK})
	for _, b := range [][]byte{nil, {}, {129}, {129, 0}, with(full(9), 2), with(full(9), 129, 0), full(20)} {
		check(t, "P502", "refused", getSigned(b), got{0, 0, api.ErrByte})
	}
}

func TestP503SameAgain(t *testing.T) {
	for _, n := range edges() {
		first := Put(n)
		Put(n + 1)
		Signed(n - 1)
		checkBytes(t, "P503", "Put again", Put(n), first)
		check(t, "P503", "Get again", get(first), get(first))
	}
}

func TestP503NewMemory(t *testing.T) {
	for _, put := range []func(int) []byte{Put, Signed} {
		for _, n := range []int{0, 1, 300, -1} {
			first, second := put(n), put(n)
			want := bytes.Clone(first)
			for i := range second {
				second[i]++
			}
			_ = append(second, 9)
			checkBytes(t, "P503", "the first", first, want)
			checkBytes(t, "P503", "a third", put(n), want)
		}
	}
}

func TestP503ArgumentsStay(t *testing.T) {
	for _, b := range [][]byte{{172, 2, 7}, {128, 0, 7}, {128}, {}} {
		room := append(bytes.Clone(b), 5, 6)
		Get(room[:len(b)])
		GetSigned(room[:len(b)])
		checkBytes(t, "P503", "what came in, and its spare room", room, with(b, 5, 6))
	}
}
