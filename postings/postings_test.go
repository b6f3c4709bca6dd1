package postings

import (
	"bytes"
	"math"
	"math/rand"
	"slices"
	"strconv"
	"testing"

	"lysimeter/api"
	"lysimeter/varint"
)

func check[T comparable](t *testing.T, promise, name string, got, want T) {
	t.Helper()
	if got != want {
		t.Errorf("%s: %s: %#v, want %#v", promise, name, got, want)
	}
}

func checkBytes(t *testing.T, promise, name string, got, want []byte) {
	t.Helper()
	if !bytes.Equal(got, want) {
		t.Errorf("%s: %s: %v, want %v", promise, name, got, want)
	}
}

func checkList(t *testing.T, promise, name string, got, want []int) {
	t.Helper()
	if !slices.Equal(got, want) {
		t.Errorf("%s: %s: %v, want %v", promise, name, got, want)
	}
}

const top = 1<<40 - 1 // the greatest number of a list

// upTo is the numbers from 0 to n - 1.
func upTo(n int) []int {
	var out []int
	for i := range n {
		out = append(out, i)
	}
	return out
}

// goodLists are lists that Check takes.
func goodLists() [][]int {
	return [][]int{
		nil, {}, {0}, {1}, {7}, {top}, {0, 1}, {0, top}, {top - 1, top}, {0, 1, 2, 3},
		{3, 4, 9}, {1, 2, 3, 9}, {2, 3, 4}, {2, 4, 6, 8}, {1, 3, 5, 7}, {5, 6, 7, 8, 9}, {0, 127, 128, 129, 16511, 16512, 1 << 35},
	}
}

// badLists are lists that Check does not take.
func badLists() [][]int {
	return [][]int{
		{-1}, {math.MinInt}, {top + 1}, {math.MaxInt}, {1, 1}, {0, 0}, {2, 1}, {top, top}, {0, -1}, {-1, 0},
		{1, 2, 2}, {1, 3, 2}, {0, 1, top + 1}, {1, 2, math.MinInt}, {2, 1, 3}, {1, 1, 2}, {5, 6, 7, 0},
	}
}

func name(lists ...[]int) string {
	out := ""
	for _, l := range lists {
		out += "["
		for _, n := range l {
			out += strconv.Itoa(n) + " "
		}
		out += "]"
	}
	return out
}

// random is a list of numbers below most, each of which is there by chance.
func random(r *rand.Rand, most int) []int {
	var out []int
	odds := r.Intn(5)
	for n := range most {
		if r.Intn(4) < odds {
			out = append(out, n)
		}
	}
	return out
}

// filtered is those numbers of a and b, rising, which a plain question about the lists takes.
func filtered(a, b []int, takes func(n int) bool) []int {
	both := slices.Concat(a, b)
	slices.Sort(both)
	both = slices.Compact(both)
	return slices.DeleteFunc(both, func(n int) bool { return !takes(n) })
}

func checkSets(t *testing.T, a, b []int) {
	t.Helper()
	in := func(l []int, n int) bool { return slices.Contains(l, n) }
	checkList(t, "P1401", "And"+name(a, b), And(a, b), filtered(a, b, func(n int) bool { return in(a, n) && in(b, n) }))
	checkList(t, "P1401", "Or"+name(a, b), Or(a, b), filtered(a, b, func(n int) bool { return true }))
	checkList(t, "P1401", "Sub"+name(a, b), Sub(a, b), filtered(a, b, func(n int) bool { return in(a, n) && !in(b, n) }))
}

func TestP1401Check(t *testing.T) {
	for _, l := range goodLists() {
		check(t, "P1401", name(l), Check(l), true)
	}
	for _, l := range badLists() {
		check(t, "P1401", name(l), Check(l), false)
	}
	long := upTo(3 * api.MaxPost) // how many there are is not asked here
	check(t, "P1401", "a long list", Check(long), true)
	long[len(long)-1] = 0
	check(t, "P1401", "a long list whose last number is low", Check(long), false)
}

func TestP1401Sets(t *testing.T) {
	for _, a := range goodLists() {
		for _, b := range goodLists() {
			checkSets(t, a, b)
		}
	}
	r := rand.New(rand.NewSource(14))
	for range 500 {
		checkSets(t, random(r, 1+r.Intn(20)), random(r, 1+r.Intn(20)))
	}
}

func TestP1401SetsOfLongLists(t *testing.T) {
	a, b := upTo(3*api.MaxPost), upTo(2*api.MaxPost)
	checkList(t, "P1401", "And of long lists", And(a, b), b)
	checkList(t, "P1401", "Or of long lists", Or(a, b), a)
	checkList(t, "P1401", "Sub of long lists", Sub(a, b), a[2*api.MaxPost:])
	checkList(t, "P1401", "All of long lists", All([][]int{a, b, a}), b)
}

func TestP1401SetsOfListsThatCannotBe(t *testing.T) {
	for _, bad := range badLists() {
		for _, l := range append(goodLists(), bad) {
			for which, set := range []func(a, b []int) []int{And, Or, Sub} {
				n := strconv.Itoa(which) + ": "
				check(t, "P1401", n+name(bad, l), len(set(bad, l)), 0)
				check(t, "P1401", n+name(l, bad), len(set(l, bad)), 0)
			}
		}
	}
}

func TestP1401All(t *testing.T) {
	check(t, "P1401", "of no lists", len(All(nil)), 0)
	check(t, "P1401", "of an empty list of lists", len(All([][]int{})), 0)
	for _, l := range goodLists() {
		checkList(t, "P1401", "of one", All([][]int{l}), l)
		checkList(t, "P1401", "of one twice", All([][]int{l, l}), l)
		check(t, "P1401", "with an empty one", len(All([][]int{l, nil, l})), 0)
	}
	checkList(t, "P1401", "of three", All([][]int{{1, 2, 3, 9}, {2, 3, 4, 9}, {3, 9, top}}), []int{3, 9})
	r := rand.New(rand.NewSource(1401))
	for range 300 {
		var lists [][]int
		for range 1 + r.Intn(4) {
			lists = append(lists, append(random(r, 12), top))
		}
		want := filtered(lists[0], nil, func(n int) bool {
			return !slices.ContainsFunc(lists, func(l []int) bool { return !slices.Contains(l, n) })
		})
		checkList(t, "P1401", "All"+name(lists...), All(lists), want)
	}
}

func TestP1401AllOfListsThatCannotBe(t *testing.T) {
	for _, bad := range badLists() {
		good := []int{0, 1, 2, 3, 5, 6, 7, top}
		for _, lists := range [][][]int{{bad}, {bad, bad}, {bad, good}, {good, bad}, {good, bad, good}, {bad, good, good}, {good, good, bad}, {nil, bad}} {
			check(t, "P1401", "All"+name(lists...), len(All(lists)), 0)
		}
	}
}

// packed is Pack's bytes, told in another way: all numbers first, then each put.
func packed(l []int) []byte {
	numbers := []int{len(l)}
	for i, n := range l {
		if i == 0 {
			numbers = append(numbers, n)
		} else {
			numbers = append(numbers, n-l[i-1]-1)
		}
	}
	return put(numbers...)
}

// put is the numbers' bytes, one behind the other.
func put(numbers ...int) []byte {
	var b []byte
	for _, n := range numbers {
		b = append(b, varint.Put(n)...)
	}
	return b
}

func checkPack(t *testing.T, what string, l []int) {
	t.Helper()
	b, errno := Pack(l)
	check(t, "P1402", what, errno, api.OK)
	checkBytes(t, "P1402", what, b, packed(l))
	for _, behind := range [][]byte{nil, {0}, {255}, {9, 9, 9}} {
		back, size, errno := Unpack(slices.Concat(b, behind))
		check(t, "P1402", what+" unpacked", errno, api.OK)
		checkList(t, "P1402", what+" unpacked", back, l)
		check(t, "P1402", what+" unpacked: how many bytes", size, len(b))
	}
}

// refused checks that no list's bytes stand at the beginning of b.
func refused(t *testing.T, what string, b []byte) {
	t.Helper()
	l, size, errno := Unpack(b)
	check(t, "P1402", what, errno, api.ErrByte)
	check(t, "P1402", what+": numbers", len(l), 0)
	check(t, "P1402", what+": how many bytes", size, 0)
}

func TestP1402PackAndUnpack(t *testing.T) {
	for _, l := range goodLists() {
		checkPack(t, name(l), l)
	}
	r := rand.New(rand.NewSource(1402))
	for range 300 {
		l := random(r, 1+r.Intn(40))
		checkPack(t, name(l), l)
		for i := range l { // the same, further apart
			l[i] = l[i] << 34
		}
		checkPack(t, name(l), l)
	}
	for n := range 41 {
		checkPack(t, "one number", []int{1<<n - 1})
	}
}

func TestP1402PackOfMany(t *testing.T) {
	checkPack(t, "MaxPost numbers", upTo(api.MaxPost))
	last := upTo(api.MaxPost)
	for i := range last {
		last[i] += top + 1 - api.MaxPost
	}
	checkPack(t, "the last MaxPost numbers", last)
}

func TestP1402PackRefuses(t *testing.T) {
	tooMany := upTo(api.MaxPost + 1)
	badAndTooMany := upTo(api.MaxPost + 1)
	badAndTooMany[0] = -1
	for what, l := range map[string][]int{"too many": tooMany, "too many, and none that can be": badAndTooMany, "far too many": upTo(3 * api.MaxPost)} {
		b, errno := Pack(l)
		check(t, "P1402", what, errno, api.ErrLong)
		check(t, "P1402", what+": bytes", len(b), 0)
	}
	for _, l := range append(badLists(), badAndTooMany[:api.MaxPost]) {
		b, errno := Pack(l)
		check(t, "P1402", name(l), errno, api.ErrArg)
		check(t, "P1402", name(l)+": bytes", len(b), 0)
	}
}

func TestP1402UnpackRefusesWhatIsCutOff(t *testing.T) {
	refused(t, "no bytes", nil)
	for _, l := range goodLists() {
		b, _ := Pack(l)
		for i := range b {
			refused(t, name(l)+" cut at "+strconv.Itoa(i), b[:i])
		}
	}
}

func TestP1402UnpackRefuses(t *testing.T) {
	many := append(put(api.MaxPost+1), make([]byte, 2*api.MaxPost)...) // all that it tells of is there
	refused(t, "more than MaxPost", many)
	for what, numbers := range map[string][]int{
		"a first number of 2^40":                  {1, top + 1},
		"a first number of 64 bits":               {1, -1},
		"a first number of the 64th bit":          {1, math.MinInt},
		"a first number of 63 bits":               {1, math.MaxInt},
		"a second number of 2^40":                 {2, 0, top},
		"a second number of 2^40 behind the last": {2, top, 0},
		"a second number of 64 bits":              {2, 5, -1},
		"a second number that goes back":          {2, 5, -2},
		"a second number that goes round":         {2, 5, math.MinInt},
		"a sum that goes round":                   {2, 5, math.MaxInt},
		"a third number of 2^40":                  {3, 0, top - 2, 1},
		"how many of 64 bits":                     {-1, 1, 1},
		"how many of the 64th bit":                {math.MinInt, 1, 1},
		"how many of 63 bits":                     {math.MaxInt, 1, 1},
		"how many of 2^32 more than one":          {1<<32 + 1, 1, 1},
		"fewer than it tells of":                  {4, 1, 1, 1},
	} {
		refused(t, what, put(numbers...))
	}
	for what, b := range map[string][]byte{
		"how many in more bytes than it needs": {129, 0, 3},
		"none in more bytes than it needs":     {128, 0},
		"a first number in more bytes":         {1, 131, 0},
		"a difference in more bytes":           {2, 1, 128, 0},
		"more than 64 bits":                    {1, 255, 255, 255, 255, 255, 255, 255, 255, 255, 2},
		"no end":                               {1, 255, 255, 255},
	} {
		refused(t, what, b)
	}
}

// TestP1402UnpackTakesPacksBytesAlone goes over all short rows of some bytes: what is taken is just what Pack tells.
func TestP1402UnpackTakesPacksBytesAlone(t *testing.T) {
	some := []byte{0, 1, 2, 3, 127, 128, 129, 255}
	taken := 0
	var grow func(b []byte)
	grow = func(b []byte) {
		l, size, errno := Unpack(b)
		if errno == api.OK {
			taken++
			again, packs := Pack(l)
			check(t, "P1402", "what Unpack tells can be packed", packs, api.OK)
			checkBytes(t, "P1402", "what Unpack took", b[:size], again)
		}
		if len(b) == 5 {
			return
		}
		for _, c := range some {
			grow(append(b[:len(b):len(b)], c))
		}
	}
	grow(nil)
	check(t, "P1402", "some are taken", taken > 1000, true)
}

func TestP1403AnswersAreNewMemory(t *testing.T) {
	a, b := []int{1, 2, 3, 9}, []int{2, 3, 4}
	spare := append(make([]int, 0, 10), 2, 3, 4)
	for what, call := range map[string]func() []int{
		"And": func() []int { return And(a, spare) }, "And of one": func() []int { return And(a, a) },
		"Or": func() []int { return Or(a, spare) }, "Or with none": func() []int { return Or(a, nil) }, "none, Or": func() []int { return Or(nil, spare) },
		"Sub": func() []int { return Sub(a, spare) }, "Sub of none": func() []int { return Sub(spare, nil) },
		"All": func() []int { return All([][]int{a, spare}) }, "All of one": func() []int { return All([][]int{spare}) }, "All of one twice": func() []int { return All([][]int{a, a}) },
		"Unpack": func() []int { l, _, _ := Unpack([]byte{3, 3, 0, 4}); return l },
	} {
		first := call()
		want := slices.Clone(first)
		for i := range first[:cap(first)] {
			first[:cap(first)][i] = -5
		}
		checkList(t, "P1403", what+" again", call(), want)
		checkList(t, "P1403", what+": the first argument", a, []int{1, 2, 3, 9})
		checkList(t, "P1403", what+": the second argument, with its room", spare[:cap(spare)], []int{2, 3, 4, 0, 0, 0, 0, 0, 0, 0})
	}
	checkList(t, "P1403", "another list", b, []int{2, 3, 4})
	first, _ := Pack(a)
	clear(first[:cap(first)])
	second, _ := Pack(a)
	checkBytes(t, "P1403", "Pack again", second, []byte{4, 1, 0, 0, 5})
}

func TestP1403ArgumentsStay(t *testing.T) {
	for _, l := range slices.Concat(goodLists(), badLists()) {
		room := append(make([]int, 0, len(l)+4), l...)
		Check(room)
		And(room, room)
		Or(room, []int{1})
		Sub([]int{1}, room)
		All([][]int{room, {1}, room})
		Pack(room)
		checkList(t, "P1403", name(l), room[:cap(room)], append(slices.Clone(l), 0, 0, 0, 0))
	}
	b := append(make([]byte, 0, 8), 3, 3, 0, 4)
	Unpack(b)
	checkBytes(t, "P1403", "Unpack's bytes", b[:8], []byte{3, 3, 0, 4, 0, 0, 0, 0})
	lists := [][]int{{1, 2}, {2, 3}, {2}}
	All(lists)
	checkList(t, "P1403", "All's lists", slices.Concat(lists...), []int{1, 2, 2, 3, 2})
	check(t, "P1403", "All's first list", len(lists[0]), 2)
}

func TestP1403BytesMayBeChangedBehindUnpack(t *testing.T) {
	b := []byte{3, 3, 0, 4}
	l, _, _ := Unpack(b)
	clear(b)
	checkList(t, "P1403", "the list", l, []int{3, 4, 9})
}

func TestChapter14Examples(t *testing.T) {
	checkList(t, "example", "And", And([]int{1, 2, 3}, []int{2, 3, 4}), []int{2, 3})
	b, errno := Pack([]int{3, 4, 9})
	check(t, "example", "Pack", errno, api.OK)
	checkBytes(t, "example", "Pack", b, []byte{3, 3, 0, 4})
}
