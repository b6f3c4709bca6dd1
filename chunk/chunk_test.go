package chunk

import (
	"bytes"
	"math"
	"slices"
	"strconv"
	"testing"

	"lysimeter/api"
	"lysimeter/stamps"
	"lysimeter/values"
)

func check[T comparable](t *testing.T, promise, name string, got, want T) {
	t.Helper()
	if got != want {
		t.Errorf("%s: %s: %#v, want %#v", promise, name, got, want)
	}
}

func checkBytes(t *testing.T, promise, name string, got, want []byte) {
	t.Helper()
	if !bytes.Equal(got, want) {
		t.Errorf("%s: %s: %v, want %v", promise, name, got, want)
	}
}

func checkSamples(t *testing.T, promise, name string, got, want []api.Sample) {
	t.Helper()
	if !slices.Equal(got, want) {
		t.Errorf("%s: %s: %v, want %v", promise, name, got, want)
	}
}

// refused checks that no samples' bytes stand at the beginning of b.
func refused(t *testing.T, name string, b []byte) {
	t.Helper()
	l, size, errno := Unpack(b)
	check(t, "P801", name, errno, api.ErrByte)
	check(t, "P801", name+": samples", len(l), 0)
	check(t, "P801", name+": how many bytes", size, 0)
}

// evenly are n samples whose times rise by 10, and whose values change a little.
func evenly(n int) []api.Sample {
	var out []api.Sample
	for i := range n {
		out = append(out, api.Sample{T: 10*i - 55, V: i*i - 99})
	}
	return out
}

// wildly are n samples whose times and values need all their bits.
func wildly(n int) []api.Sample {
	var out []api.Sample
	x := uint64(1)
	t := -api.MaxTime
	for range n {
		x = x*6364136223846793005 + 1442695040888963407
		t += 1 + int(x>>20)
		out = append(out, api.Sample{T: t, V: int(x ^ x>>31)})
	}
	return out
}

// still are n samples of one value whose times rise by 1.
func still(n int) []api.Sample {
	var out []api.Sample
	for i := range n {
		out = append(out, api.Sample{T: i, V: 7})
	}
	return out
}

func samplesOfAllKinds() [][]api.Sample {
	out := [][]api.Sample{
		{{}}, {{T: 5, V: -5}}, {{T: -api.MaxTime, V: math.MinInt}}, {{T: api.MaxTime, V: math.MaxInt}},
		{{T: -api.MaxTime, V: api.Least}, {T: api.MaxTime, V: api.Most}},
		{{T: -1, V: 0}, {T: 0, V: -1}, {T: 1, V: 1}},
	}
	for _, n := range []int{1, 2, 3, 9, 10, 60, 100, api.MaxChunk - 1, api.MaxChunk} {
		out = append(out, evenly(n), wildly(n), still(n))
	}
	return out
}

// sized is a size and the bytes of it, written down by hand: sizes here have one or two bytes.
func sized(b []byte) []byte {
	n := len(b)
	if n < 128 {
		return slices.Concat([]byte{byte(n)}, b)
	}
	return slices.Concat([]byte{byte(n%128 + 128), byte(n / 128)}, b)
}

// columns are the packed times and the packed values.
func columns(l []api.Sample) (times, numbers []byte) {
	var allTimes, allNumbers []int
	for _, s := range l {
		allTimes = append(allTimes, s.T)
		allNumbers = append(allNumbers, s.V)
	}
	times, _ = stamps.Pack(allTimes)
	numbers, _ = values.Pack(allNumbers)
	return times, numbers
}

// plainPack is a second way to the bytes of samples.
func plainPack(l []api.Sample) []byte {
	times, numbers := columns(l)
	return slices.Concat([]byte{byte(len(l))}, sized(times), sized(numbers))
}

func TestP801Pack(t *testing.T) {
	zeros := []byte{0, 0, 0, 0, 0, 0, 0, 0}
	for _, c := range []struct {
		name string
		l    []api.Sample
		want []byte
	}{
		{"the document's", []api.Sample{{}}, slices.Concat([]byte{1, 8}, zeros, []byte{8}, zeros)},
		{"times ahead of values", []api.Sample{{T: 3, V: 4}}, []byte{1, 8, 0, 0, 0, 0, 0, 0, 0, 3, 8, 0, 0, 0, 0, 0, 0, 0, 4}},
		{"below 0", []api.Sample{{T: -1, V: -2}}, []byte{1, 8, 255, 255, 255, 255, 255, 255, 255, 255, 8, 255, 255, 255, 255, 255, 255, 255, 254}},
		{
			"two", []api.Sample{{T: 10, V: 1}, {T: 20, V: 1}},
			[]byte{2, 10, 0, 0, 0, 0, 0, 0, 0, 10, 0b10100100, 0b10000000, 9, 0, 0, 0, 0, 0, 0, 0, 1, 0},
		},
	} {
		b, errno := Pack(c.l)
		check(t, "P801", c.name, errno, api.OK)
		checkBytes(t, "P801", c.name, b, c.want)
	}
	for _, l := range samplesOfAllKinds() {
		b, errno := Pack(l)
		check(t, "P801", "by its parts", errno, api.OK)
		checkBytes(t, "P801", "by its parts", b, plainPack(l))
	}
}

// The sizes of parts have two bytes, too: the tests above are of both kinds only as long as this holds.
func TestP801PartsOfManyBytes(t *testing.T) {
	times, numbers := columns(wildly(api.MaxChunk))
	check(t, "P801", "many bytes of times", len(times) > 128, true)
	check(t, "P801", "many bytes of values", len(numbers) > 128, true)
}

func TestP801PackWrong(t *testing.T) {
	long := evenly(api.MaxChunk + 1)
	for _, c := range []struct {
		name string
		l    []api.Sample
		want api.Errno
	}{
		{"none", nil, api.ErrArg},
		{"an empty list", []api.Sample{}, api.ErrArg},
		{"an empty list with room", long[:0], api.ErrArg},
		{"as many as may be", long[:api.MaxChunk], api.OK},
		{"one more", long, api.ErrLong},
		{"many more", evenly(10 * api.MaxChunk), api.ErrLong},
		{"more, and not rising: the first error", make([]api.Sample, api.MaxChunk+1), api.ErrLong},
		{"the same time again", []api.Sample{{T: 1, V: 1}, {T: 1, V: 2}}, api.ErrTime},
		{"falling", []api.Sample{{T: 2}, {T: 1}}, api.ErrTime},
		{"falling in the end", []api.Sample{{T: 1}, {T: 5}, {T: 4}}, api.ErrTime},
		{"too great", []api.Sample{{T: api.MaxTime + 1}}, api.ErrTime},
		{"too small", []api.Sample{{T: -api.MaxTime - 1}}, api.ErrTime},
		{"the greatest int", []api.Sample{{T: math.MaxInt}}, api.ErrTime},
		{"the least int", []api.Sample{{T: math.MinInt}}, api.ErrTime},
		{"falling values are none of it", []api.Sample{{T: 1, V: 5}, {T: 2, V: math.MinInt}, {T: 3, V: math.MinInt}}, api.OK},
	} {
		b, errno := Pack(c.l)
		check(t, "P801", c.name, errno, c.want)
		check(t, "P801", c.name+": bytes", len(b) > 0, c.want == api.OK)
	}
}

func TestP801Unpack(t *testing.T) {
	tails := [][]byte{nil, {0}, {9, 9}, {255, 255, 255}, {1, 8}, plainPack(evenly(3))}
	for _, l := range samplesOfAllKinds() {
		b := plainPack(l)
		for _, tail := range tails {
			got, size, errno := Unpack(slices.Concat(b, tail))
			check(t, "P801", "there and back", errno, api.OK)
			check(t, "P801", "how many bytes", size, len(b))
			checkSamples(t, "P801", "there and back", got, l)
		}
		for cut := range len(b) {
			refused(t, "cut off", b[:cut])
		}
	}
}

func TestP801UnpackOneBehindTheOther(t *testing.T) {
	var all []byte
	for _, l := range samplesOfAllKinds() {
		all = append(all, plainPack(l)...)
	}
	for i, want := range samplesOfAllKinds() {
		l, size, errno := Unpack(all)
		check(t, "P801", "list "+strconv.Itoa(i), errno, api.OK)
		checkSamples(t, "P801", "list "+strconv.Itoa(i), l, want)
		all = all[size:]
	}
	check(t, "P801", "what is left", len(all), 0)
}

func TestP801UnpackWrong(t *testing.T) {
	one := make([]byte, 8)
	part := sized(one)
	late := sized([]byte{0, 32, 0, 0, 0, 0, 0, 1}) // MaxTime and 1
	same := sized(make([]byte, 9))                 // a gap of 0
	huge := []byte{255, 255, 255, 255, 255, 255, 255, 255, 127}
	below := []byte{255, 255, 255, 255, 255, 255, 255, 255, 255, 1}
	rest := make([]byte, 300)
	for _, c := range []struct {
		name  string
		lists [][]byte
	}{
		{"nothing", nil},
		{"no samples", [][]byte{{0}}},
		{"no samples, and parts of no bytes", [][]byte{{0, 0, 0}}},
		{"no samples, and bytes of one", [][]byte{{0}, part, part}},
		{"one sample, and parts of no bytes", [][]byte{{1, 0, 0}, rest}},
		{"only how many", [][]byte{{1}}},
		{"how many in more bytes than it needs", [][]byte{{129, 0}, part, part}},
		{"how many that does not end", [][]byte{{129}}},
		{"how many of more than 64 bits", [][]byte{{255, 255, 255, 255, 255, 255, 255, 255, 255, 2}, part, part}},
		{"how many below 0", [][]byte{below, part, part}},
		{"how many the greatest int", [][]byte{huge, part, part}},
		{"no values", [][]byte{{1}, part}},
		{"values of no bytes", [][]byte{{1}, part, {0}}},
		{"times of no bytes", [][]byte{{1, 0}, part}},
		{"a size of more bytes than it needs", [][]byte{{1, 136, 0}, one, part}},
		{"the second size likewise", [][]byte{{1}, part, {136, 0}, one}},
		{"a size that does not end", [][]byte{{1, 136}}},
		{"a size above what there is", [][]byte{{1}, part, {9}, one}},
		{"a size below 0", [][]byte{{1}, below, rest}},
		{"the second size below 0", [][]byte{{1}, part, below, rest}},
		{"a size that wraps round", [][]byte{{1}, huge, rest}},
		{"the second size that wraps round", [][]byte{{1}, part, huge, rest}},
		{"a byte too many of times", [][]byte{{1}, sized(rest[:9]), part}},
		{"a byte too many of values", [][]byte{{1}, part, sized(rest[:9])}},
		{"a byte too few of times", [][]byte{{1}, sized(rest[:7]), part}},
		{"a byte too few of values", [][]byte{{1}, part, sized(rest[:7]), rest}},
		{"a time that can't be", [][]byte{{1}, late, part}},
		{"times that do not rise", [][]byte{{2}, same, same}},
		{"more than there are", [][]byte{{2}, part, part}},
		{"many more than there are", [][]byte{{api.MaxChunk}, part, part}},
		{"more than may be", [][]byte{{api.MaxChunk + 1}, part, part}},
	} {
		refused(t, c.name, slices.Concat(c.lists...))
	}
}

// As many bits as 121 samples would need, so that nothing but their number is wrong.
func TestP801UnpackOneTooMany(t *testing.T) {
	times, numbers := columns(still(api.MaxChunk))
	refused(t, "121", slices.Concat([]byte{api.MaxChunk + 1}, sized(append(times, 0)), sized(append(numbers, 0))))
}

// What is left of the last byte of each part reads as changes of 0: it is the number ahead that tells how many count.
func TestP801NumberTells(t *testing.T) {
	b := plainPack(still(2))
	for n := 2; n <= 9; n++ {
		b[0] = byte(n)
		l, size, errno := Unpack(b)
		check(t, "P801", strconv.Itoa(n), errno, api.OK)
		check(t, "P801", strconv.Itoa(n)+": how many bytes", size, len(b))
		checkSamples(t, "P801", strconv.Itoa(n), l, still(n))
		checkBytes(t, "P801", strconv.Itoa(n)+": packed", plainPack(l), b)
	}
	for _, n := range []byte{0, 1, 10, 11, api.MaxChunk} {
		b[0] = n
		refused(t, "fewer than the parts need, or more than they have", b)
	}
}

// Whatever the bytes: if samples are told of them, these are samples whose bytes they begin with.
func TestP801Spoilt(t *testing.T) {
	for _, l := range [][]api.Sample{{{}}, evenly(2), evenly(30), wildly(20), still(12)} {
		good := plainPack(l)
		for i := range good {
			for bit := range 8 {
				b := bytes.Clone(good)
				b[i] ^= 1 << bit
				got, size, errno := Unpack(b)
				if errno != api.OK {
					refused(t, "spoilt", b)
					continue
				}
				again, errno := Pack(got)
				check(t, "P801", "spoilt, and taken", errno, api.OK)
				checkBytes(t, "P801", "spoilt, and taken", again, b[:size])
			}
		}
	}
}

func TestP802Split(t *testing.T) {
	const most = api.MaxChunk
	for _, c := range []struct {
		n    int
		want []int
	}{
		{0, nil},
		{1, []int{1}},
		{2, []int{2}},
		{most - 1, []int{most - 1}},
		{most, []int{most}},
		{most + 1, []int{most, 1}},
		{2*most - 1, []int{most, most - 1}},
		{2 * most, []int{most, most}},
		{2*most + 1, []int{most, most, 1}},
		{250, []int{120, 120, 10}},
		{10 * most, slices.Repeat([]int{most}, 10)},
	} {
		name := strconv.Itoa(c.n)
		l := evenly(c.n)
		out := Split(l)
		var sizes []int
		for _, part := range out {
			sizes = append(sizes, len(part))
		}
		check(t, "P802", name+": sizes", slices.Equal(sizes, c.want), true)
		checkSamples(t, "P802", name, slices.Concat(out...), l)
	}
	check(t, "P802", "an empty list", len(Split([]api.Sample{})), 0)
}

func TestP802TimesAreNotLookedAt(t *testing.T) {
	l := make([]api.Sample, api.MaxChunk, api.MaxChunk+3)
	l = append(l, api.Sample{T: math.MaxInt, V: 1}, api.Sample{T: math.MinInt, V: 2}, api.Sample{T: math.MinInt, V: 3})
	out := Split(l)
	check(t, "P802", "how many", len(out), 2)
	checkSamples(t, "P802", "in their order", slices.Concat(out...), l)
	checkSamples(t, "P802", "falling", Split([]api.Sample{{T: 2}, {T: 1}, {T: 1}})[0], []api.Sample{{T: 2}, {T: 1}, {T: 1}})
}

// Each list that Split makes of rising samples is one that Pack takes.
func TestP802PackTakesEach(t *testing.T) {
	for _, part := range Split(evenly(500)) {
		b, errno := Pack(part)
		check(t, "P802", "packed", errno, api.OK)
		back, _, _ := Unpack(b)
		checkSamples(t, "P802", "there and back", back, part)
	}
}

func TestP803Same(t *testing.T) {
	l := evenly(4)
	first, _ := Pack(l)
	back, _, _ := Unpack(first)
	Pack(wildly(7))
	Unpack([]byte{1})
	Split(wildly(300))
	second, _ := Pack(l)
	checkBytes(t, "P803", "packed again", second, first)
	again, size, _ := Unpack(first)
	checkSamples(t, "P803", "unpacked again", again, back)
	check(t, "P803", "unpacked again: how many bytes", size, len(first))
}

func TestP803PackIsNewMemory(t *testing.T) {
	room := evenly(6)
	want := plainPack(room[:3])
	b, _ := Pack(room[:3])
	clear(b[:cap(b)])
	checkSamples(t, "P803", "the samples stay, their spare room too", room, evenly(6))
	b, _ = Pack(room[:3])
	checkBytes(t, "P803", "what was answered is spoilt", b, want)
	clear(room)
	checkBytes(t, "P803", "the samples are not kept", b, want)
}

func TestP803UnpackIsNewMemory(t *testing.T) {
	good := plainPack(evenly(3))
	spare := append(bytes.Clone(good), 1, 2, 3)
	l, _, _ := Unpack(spare[:len(good)])
	other, _, _ := Unpack(spare[:len(good)])
	clear(l[:cap(l)])
	checkBytes(t, "P803", "the bytes stay, their spare room too", spare, append(bytes.Clone(good), 1, 2, 3))
	clear(spare)
	checkSamples(t, "P803", "the bytes are not kept", other, evenly(3))
}

func TestP803SplitIsNewMemory(t *testing.T) {
	room := evenly(260)
	l := room[:250]
	out := Split(l)
	other := Split(l)
	for i, part := range out {
		clear(part[:cap(part)])
		for k := i + 1; k < len(out); k++ {
			checkSamples(t, "P803", "the lists behind stay", out[k], room[k*api.MaxChunk:min(250, (k+1)*api.MaxChunk)])
		}
	}
	checkSamples(t, "P803", "the samples stay, their spare room too", room, evenly(260))
	checkSamples(t, "P803", "nothing is shared by two answers", slices.Concat(other...), l)
	clear(room)
	checkSamples(t, "P803", "the samples are not kept", slices.Concat(other...), evenly(250))
	clear(other[len(other)-1])
	checkSamples(t, "P803", "the lists ahead stay", slices.Concat(other[:2]...), evenly(240))
}
