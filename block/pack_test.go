package block

import (
	"bytes"
	"fmt"
	"math"
	"math/rand"
	"slices"
	"strconv"
	"strings"
	"testing"
	"unsafe"

	"lysimeter/api"
	"lysimeter/chunk"
	"lysimeter/labels"
)

// plainPut is a number as varint.Put has it, by the chapter's words.
func plainPut(n int) []byte {
	var b []byte
	left := uint64(n)
	for left > 127 {
		b = append(b, byte(left%128+128))
		left /= 128
	}
	return append(b, byte(left))
}

// plainSigned is a number as varint.Signed has it.
func plainSigned(n int) []byte {
	if n < 0 {
		return plainPut(-2*n - 1)
	}
	return plainPut(2 * n)
}

// plainSum is the bytes with the sum of all of them behind, bit by bit.
func plainSum(b []byte) []byte {
	sum := uint32(4294967295)
	for _, x := range b {
		sum ^= uint32(x)
		for range 8 {
			if sum%2 == 1 {
				sum = sum>>1 ^ 2197175160
			} else {
				sum >>= 1
			}
		}
	}
	sum = ^sum
	return append(bytes.Clone(b), byte(sum), byte(sum>>8), byte(sum>>16), byte(sum>>24))
}

// form is what the bytes of a block are made of, whether it can be or not.
type form struct {
	mark            string
	from, to, count int
	series          []part
	behind          []byte
}

// part is a series in it.
type part struct {
	text   string
	count  int
	chunks [][]api.Sample
}

// formed is what the bytes of series are made of.
func formed(l []api.Series) form {
	f := form{mark: "LYS1", count: len(l)}
	f.from, f.to = plainSpan(l)
	for _, s := range l {
		p := part{text: labels.Text(s.Labels)}
		for cut := range slices.Chunk(s.Samples, 120) {
			p.chunks = append(p.chunks, cut)
			p.count++
		}
		f.series = append(f.series, p)
	}
	return f
}

func (f form) bytes() []byte {
	b := slices.Concat([]byte(f.mark), plainSigned(f.from), plainSigned(f.to), plainPut(f.count))
	for _, p := range f.series {
		b = slices.Concat(b, plainPut(len(p.text)), []byte(p.text), plainPut(p.count))
		for _, cut := range p.chunks {
			one, _ := chunk.Pack(cut)
			b = append(b, one...)
		}
	}
	return plainSum(append(b, f.behind...))
}

// packedWell is the bytes of series that can be.
func packedWell(t *testing.T, name string, l []api.Series) []byte {
	t.Helper()
	b, errno := Pack(l)
	if errno != api.OK {
		t.Fatalf("P1602: %s: Pack: %v", name, errno)
	}
	return b
}

// taken checks that the bytes are those of the series.
func taken(t *testing.T, name string, b []byte, l []api.Series) {
	t.Helper()
	got, errno := Unpack(b)
	check(t, "P1602", name+": Unpack", errno, api.OK)
	check(t, "P1602", name+": Unpack", shown(got), shown(l))
	from, to, count, errno := Look(b)
	plainFrom, plainTo := plainSpan(l)
	check(t, "P1602", name+": Look", errno, api.OK)
	check(t, "P1602", name+": Look", [3]int{from, to, count}, [3]int{plainFrom, plainTo, len(l)})
}

// refused checks that the bytes are those of no series.
func refused(t *testing.T, name string, b []byte) {
	t.Helper()
	l, errno := Unpack(b)
	check(t, "P1602", name+": Unpack", errno, api.ErrByte)
	if l != nil {
		t.Errorf("P1602: %s: series beside an error", name)
	}
	from, to, count, errno := Look(b)
	check(t, "P1602", name+": Look", errno, api.ErrByte)
	check(t, "P1602", name+": Look", [3]int{from, to, count}, [3]int{})
}

func TestP1602Bytes(t *testing.T) {
	zeros := make([]byte, 8)
	l := []api.Series{{Labels: of("a", "1"), Samples: []api.Sample{{T: 0, V: 0}}}, {Labels: of("a", "\"", "b", "é"), Samples: []api.Sample{{T: -1, V: 0}}}}
	l[0], l[1] = l[1], l[0] // the quote is below the digit
	want := plainSum(slices.Concat([]byte("LYS1"), []byte{1, 2, 2},
		[]byte{20}, []byte(`{a="\22",b="\c3\a9"}`), []byte{1}, []byte{1, 8, 255, 255, 255, 255, 255, 255, 255, 255, 8}, zeros,
		[]byte{7}, []byte(`{a="1"}`), []byte{1}, []byte{1, 8}, zeros, []byte{8}, zeros))
	checkList(t, "P1602", "two series", packedWell(t, "two series", l), want)
	taken(t, "two series", want, l)
	far := []api.Series{one("1", -api.MaxTime, api.MaxTime)}
	b := packedWell(t, "far", far)
	checkList(t, "P1602", "the span of far times", b[4:20], slices.Concat(plainSigned(-api.MaxTime), plainSigned(api.MaxTime+1)))
	checkList(t, "P1602", "behind it", b[20:30], []byte("\x01\x07{a=\"1\"}\x01"))
}

func TestP1602PackAndUnpack(t *testing.T) {
	full := numbered(api.MaxSeries)
	for i := range full {
		full[i].Labels = append(full[i].Labels, wide(api.MaxLabels-1)...)
		full[i].Samples = at(upTo(1 + i%300)...)
	}
	for name, l := range map[string][]api.Series{
		"nil": nil, "none": {}, "one": {one("1", 1)}, "odd": oddSeries(), "full": full, "127": numbered(127), "128": numbered(128), "as many as can be": numbered(api.MaxSeries),
		"119 samples": {one("1", upTo(119)...)}, "120 samples": {one("1", upTo(120)...)}, "121 samples": {one("1", upTo(121)...)}, "240 samples": {one("1", upTo(240)...)}, "241 samples": {one("1", upTo(241)...)},
		"127 chunks": {one("1", upTo(127*120)...)}, "128 chunks": {one("1", upTo(127*120+1)...)},
	} {
		b := packedWell(t, name, l)
		checkList(t, "P1602", name, b, formed(l).bytes())
		taken(t, name, b, l)
	}
}

func TestP1602PackAndUnpackOfAnySeries(t *testing.T) {
	dice := rand.New(rand.NewSource(1602))
	for range 2000 {
		l := anySeries(dice)
		b := packedWell(t, "any", l)
		checkList(t, "P1602", "any", b, formed(l).bytes())
		taken(t, "any", b, l)
	}
}

// partSize is how many bytes a series has in a block.
func partSize(s api.Series) int {
	text, parts := labels.Text(s.Labels), 0
	size := len(plainPut(len(text))) + len(text)
	for cut := range slices.Chunk(s.Samples, 120) {
		one, _ := chunk.Pack(cut)
		size += len(one)
		parts++
	}
	return size + len(plainPut(parts))
}

// sizeOf is how many bytes the series have as a block.
func sizeOf(l []api.Series) int {
	from, to := plainSpan(l)
	size := 4 + len(plainSigned(from)) + len(plainSigned(to)) + len(plainPut(len(l))) + 4
	for _, s := range l {
		size += partSize(s)
	}
	return size
}

// great is series whose bytes are just MaxFile: samples of which each has about as many bytes as can be, and last a label of the length that is missing.
func great(t *testing.T) []api.Series {
	t.Helper()
	dice := rand.New(rand.NewSource(16))
	l := numbered(api.MaxSeries)
	sampled := func(s *api.Series, n int) {
		for range n {
			s.Samples = append(s.Samples, api.Sample{T: len(s.Samples), V: int(dice.Uint64())})
		}
	}
	for i := range l {
		l[i].Samples = nil
		sampled(&l[i], 1900)
	}
	last := &l[len(l)-1]
	l[0].Samples[1899].T = 1 << 30 // so that the span does not grow with the last one's times
	others := sizeOf(l) - partSize(*last)
	missing := func() int { return api.MaxFile - others - partSize(*last) }
	for missing() > 40 {
		sampled(last, max(1, missing()/20))
	}
	last.Labels[0].Value += strings.Repeat("x", missing())
	check(t, "P1602", "the length", sizeOf(l), api.MaxFile)
	return l
}

// stretched is the series with so many bytes more in the last one's label.
func stretched(l []api.Series, more int) []api.Series {
	out := slices.Clone(l)
	last := &out[len(out)-1]
	value := last.Labels[0].Value
	last.Labels = of("a", (value + strings.Repeat("x", max(0, more)))[:len(value)+more])
	return out
}

// formedFast is the bytes of series, without copying those ahead again for each.
func formedFast(l []api.Series) []byte {
	from, to := plainSpan(l)
	b := slices.Concat([]byte("LYS1"), plainSigned(from), plainSigned(to), plainPut(len(l)))
	for _, p := range formed(l).series {
		b = append(append(b, plainPut(len(p.text))...), p.text...)
		b = append(b, plainPut(p.count)...)
		for _, cut := range p.chunks {
			one, _ := chunk.Pack(cut)
			b = append(b, one...)
		}
	}
	return append(b, sum(b)...)
}

func same(x, y api.Series) bool {
	return slices.Equal(x.Labels, y.Labels) && slices.Equal(x.Samples, y.Samples)
}

func TestP1602Long(t *testing.T) {
	most := great(t)
	for more, want := range map[int]api.Errno{0: api.OK, 1: api.ErrLong, 5: api.ErrLong} {
		name := strconv.Itoa(more) + " above"
		l := stretched(most, more)
		check(t, "P1601", name, Check(l), api.OK)
		from, to := Span(l)
		plainFrom, plainTo := plainSpan(l)
		check(t, "P1601", name, [2]int{from, to}, [2]int{plainFrom, plainTo})
		b, errno := Pack(l)
		check(t, "P1602", name, errno, want)
		plain := formedFast(l)
		check(t, "P1602", name, len(plain), api.MaxFile+more)
		if want != api.OK {
			check(t, "P1602", name+": bytes beside an error", len(b), 0)
			refused(t, name, plain)
			continue
		}
		check(t, "P1602", name, bytes.Equal(b, plain), true)
		got, errno := Unpack(b)
		check(t, "P1602", name, errno, api.OK)
		check(t, "P1602", name, slices.EqualFunc(got, l, same), true)
	}
	longComesLast(t, most)
}

// longComesLast lays something wrong behind series whose bytes are too many.
func longComesLast(t *testing.T, l []api.Series) {
	t.Helper()
	l = stretched(l, 1)
	refusedToPack(t, "one series too many", append(l[:len(l):len(l)], one("9", 1)), api.ErrLong)
	bad := slices.Clone(l)
	bad[len(bad)-2].Samples = slices.Concat(l[0].Samples, l[len(l)-2].Samples, l[len(l)-1].Samples) // as long without the last one
	for i := range bad[len(bad)-2].Samples {
		bad[len(bad)-2].Samples[i].T = i
	}
	for errno, wrong := range map[api.Errno]api.Series{api.OK: one("9", 1), api.ErrLabel: {}, api.ErrArg: one("9"), api.ErrTime: one("9", 2, 1)} {
		bad[len(bad)-1] = wrong
		if errno == api.OK {
			check(t, "P1602", "the length", sizeOf(bad) > api.MaxFile, true)
			continue
		}
		refusedToPack(t, "wrong, and long", bad, errno)
	}
}

func TestP1602FarTooLong(t *testing.T) {
	dice := rand.New(rand.NewSource(162))
	var far []api.Sample
	for k := range 5 << 20 {
		far = append(far, api.Sample{T: k, V: int(dice.Uint64())})
	}
	for name, l := range map[string][]api.Series{"alone": {{Labels: of("a", "1"), Samples: far}}, "last": {one("0", 1), {Labels: of("a", "1"), Samples: far}}, "first": {{Labels: of("a", "1"), Samples: far}, one("2", 1)}} {
		check(t, "P1601", name, Check(l), api.OK)
		b, errno := Pack(l)
		check(t, "P1602", name, errno, api.ErrLong)
		check(t, "P1602", name, len(b), 0)
	}
}

func TestP1602UnpackRefusesCutAndLonger(t *testing.T) {
	refused(t, "nil", nil)
	refused(t, "no bytes", []byte{})
	for name, l := range map[string][]api.Series{"none": nil, "one": {one("1", 1)}, "two": {one("1", 1, 2), one("2", 5)}, "many": numbered(20), "chunks": {one("1", upTo(300)...)}} {
		b := packedWell(t, name, l)
		body := b[:len(b)-4]
		for i := range b {
			refused(t, name+", cut at "+strconv.Itoa(i), b[:i])
			refused(t, name+", without its beginning "+strconv.Itoa(i), b[i+1:])
			if i < len(body) {
				refused(t, name+", cut at "+strconv.Itoa(i)+", with the sum", plainSum(body[:i]))
				refused(t, name+", without its beginning "+strconv.Itoa(i)+", with the sum", plainSum(body[i+1:]))
			}
		}
		for _, behind := range [][]byte{{0}, {1}, {255}, {0, 0}, {0, 0, 0, 0}, b} {
			refused(t, name+", and more behind it", slices.Concat(b, behind))
			refused(t, name+", and more behind it, with the sum", plainSum(slices.Concat(body, behind)))
			refused(t, name+", and more behind it, with both sums", plainSum(slices.Concat(b, behind)))
		}
	}
}

func TestP1602UnpackRefusesEachSpoiltBit(t *testing.T) {
	for name, l := range map[string][]api.Series{"none": nil, "two": {one("1", 1, 2), one("2", 5)}, "chunks": {one("1", upTo(130)...)}} {
		b := packedWell(t, name, l)
		for i := range 8 * len(b) {
			spoilt := bytes.Clone(b)
			spoilt[i/8] ^= 1 << (i % 8)
			refused(t, fmt.Sprintf("%s, bit %d", name, i), spoilt)
		}
	}
	body := []byte("LYS1\x00\x00\x00")
	right := plainSum(body)
	taken(t, "the right sum", right, nil)
	turnedSum := slices.Concat(body, right[7:])
	slices.Reverse(turnedSum[7:])
	refused(t, "the sum, the highest first", turnedSum)
	refused(t, "no sum", slices.Concat(body, []byte{0, 0, 0, 0}))
	flipped := bytes.Clone(right)
	for i := range 4 {
		flipped[7+i] ^= 255
	}
	refused(t, "the sum, not turned at the end", flipped)
}

// wrong changes what the bytes of two good series are made of.
func wrong(change func(f *form)) []byte {
	f := formed([]api.Series{one("1", 1, 2), one("2", 5)})
	change(&f)
	return f.bytes()
}

func TestP1602UnpackRefusesForms(t *testing.T) {
	taken(t, "a good one", wrong(func(*form) {}), []api.Series{one("1", 1, 2), one("2", 5)})
	for name, b := range map[string][]byte{
		"another mark":         wrong(func(f *form) { f.mark = "LYS2" }),
		"the manifest's mark":  wrong(func(f *form) { f.mark = "LYSM" }),
		"a small mark":         wrong(func(f *form) { f.mark = "lys1" }),
		"a mark too long":      wrong(func(f *form) { f.mark = "LYS11" }),
		"a mark too short":     wrong(func(f *form) { f.mark = "LYS" }),
		"no mark":              wrong(func(f *form) { f.mark = "" }),
		"from too low":         wrong(func(f *form) { f.from-- }),
		"from too high":        wrong(func(f *form) { f.from++ }),
		"from below 0":         wrong(func(f *form) { f.from = -1 }),
		"from is the least":    wrong(func(f *form) { f.from = math.MinInt }),
		"to too low":           wrong(func(f *form) { f.to-- }),
		"to too high":          wrong(func(f *form) { f.to++ }),
		"to is the greatest":   wrong(func(f *form) { f.to = math.MaxInt }),
		"from and to turned":   wrong(func(f *form) { f.from, f.to = f.to, f.from }),
		"one series too few":   wrong(func(f *form) { f.count-- }),
		"one series too many":  wrong(func(f *form) { f.count++ }),
		"no series":            wrong(func(f *form) { f.count = 0 }),
		"-1 series":            wrong(func(f *form) { f.count = -1 }),
		"-1 series alone":      form{mark: "LYS1", count: -1}.bytes(),
		"the least count":      form{mark: "LYS1", count: math.MinInt}.bytes(),
		"the greatest count":   wrong(func(f *form) { f.count = math.MaxInt }),
		"2^32 too many":        wrong(func(f *form) { f.count += 1 << 32 }),
		"a span of none":       form{mark: "LYS1", from: 0, to: 1}.bytes(),
		"bytes behind":         wrong(func(f *form) { f.behind = []byte{0} }),
		"series that fall":     wrong(func(f *form) { slices.Reverse(f.series) }),
		"a series twice":       wrong(func(f *form) { f.series[1] = f.series[0]; f.to = 3 }),
		"no labels":            wrong(func(f *form) { f.series[0].text = "" }),
		"empty labels":         wrong(func(f *form) { f.series[0].text = "{}" }),
		"another text":         wrong(func(f *form) { f.series[0].text = `{a="1" }` }),
		"a cut text":           wrong(func(f *form) { f.series[0].text = `{a="1"` }),
		"a text quoted more":   wrong(func(f *form) { f.series[0].text = `{a="\31"}` }),
		"a text quoted less":   wrong(func(f *form) { f.series[1].text = `{a="é"}` }),
		"a text great quoted":  wrong(func(f *form) { f.series[1].text = `{a="\C3"}` }),
		"a text that falls":    wrong(func(f *form) { f.series[0].text = `{a="1",A="1"}` }),
		"a name twice":         wrong(func(f *form) { f.series[0].text = `{a="1",a="2"}` }),
		"an empty value":       wrong(func(f *form) { f.series[0].text = `{a=""}` }),
		"a long value":         wrong(func(f *form) { f.series[1].text = `{a="` + strings.Repeat("2", 65) + `"}` }),
		"two texts":            wrong(func(f *form) { f.series[0].text = `{a="1"}{a="1"}` }),
		"no chunks":            wrong(func(f *form) { f.series[0].chunks, f.series[0].count, f.from = nil, 0, 5 }),
		"no chunks, none left": form{mark: "LYS1", count: 1, series: []part{{text: `{a="1"}`}}}.bytes(),
		"one chunk too few":    wrong(func(f *form) { f.series[0].count = 0 }),
		"one chunk too many":   wrong(func(f *form) { f.series[0].count = 2 }),
		"-1 chunks":            wrong(func(f *form) { f.series[1].count = -1 }),
		"many chunks":          wrong(func(f *form) { f.series[1].count = math.MaxInt }),
		"the greatest text":    plainSum(slices.Concat([]byte("LYS1\x02\x04\x01"), plainPut(math.MaxInt), []byte(`{a="1"}`))),
		"a text below 0":       plainSum(slices.Concat([]byte("LYS1\x02\x04\x01"), plainPut(-1), []byte(`{a="1"}`))),
		"the least text":       plainSum(slices.Concat([]byte("LYS1\x02\x04\x01"), plainPut(math.MinInt), []byte(`{a="1"}`))),
		"from in more bytes":   plainSum([]byte("LYS1\x80\x00\x00\x00")),
		"to in more bytes":     plainSum([]byte("LYS1\x00\x80\x00\x00")),
		"series in more bytes": plainSum([]byte("LYS1\x00\x00\x80\x00")),
		"more than 64 bits":    plainSum([]byte("LYS1\x00\x00\xff\xff\xff\xff\xff\xff\xff\xff\xff\x02")),
		"no end of from":       plainSum([]byte("LYS1\xff")),
		"the sum alone":        plainSum(nil),
		"the mark and its sum": plainSum([]byte("LYS1")),
		"four zeros":           {0, 0, 0, 0},
	} {
		refused(t, name, b)
	}
}

func TestP1602UnpackRefusesCutsOfChunks(t *testing.T) {
	all := at(upTo(300)...)
	with := func(chunks ...[]api.Sample) []byte {
		return form{mark: "LYS1", from: 0, to: 300, count: 1, series: []part{{text: `{a="1"}`, count: len(chunks), chunks: chunks}}}.bytes()
	}
	taken(t, "as Split cuts them", with(all[:120], all[120:240], all[240:]), []api.Series{one("1", upTo(300)...)})
	for name, b := range map[string][]byte{
		"the short one first":          with(all[:60], all[60:180], all[180:]),
		"the short one between":        with(all[:120], all[120:180], all[180:]),
		"one more cut":                 with(all[:120], all[120:240], all[240:270], all[270:]),
		"single samples":               with(slices.Collect(slices.Chunk(all, 1))...),
		"119":                          with(slices.Collect(slices.Chunk(all, 119))...),
		"chunks that fall":             with(all[120:240], all[:120], all[240:]),
		"a chunk twice":                with(all[:120], all[:120], all[240:]),
		"chunks of which one is short": with(all[:120], all[120:239], all[239:]),
		"a time twice, between chunks": with(all[:120], all[119:239], all[239:]),
	} {
		refused(t, name, b)
	}
}

func TestP1602UnpackRefusesTooManySeries(t *testing.T) {
	l := numbered(api.MaxSeries + 1)
	f := formed(l)
	f.from, f.to = 0, api.MaxSeries+1
	refused(t, "one too many", f.bytes())
	taken(t, "as many as can be", formed(l[:api.MaxSeries]).bytes(), l[:api.MaxSeries])
}

// TestP1602UnpackTakesPacksBytesAlone goes over all short rows of some bytes behind the mark, with their right sum: what is taken is just what Pack tells.
func TestP1602UnpackTakesPacksBytesAlone(t *testing.T) {
	var grow func(b []byte, left int)
	grow = func(b []byte, left int) {
		whole := slices.Concat(b, sum(b))
		l, errno := Unpack(whole)
		if string(b) == "LYS1\x00\x00\x00" {
			check(t, "P1602", "none", errno, api.OK)
		} else if errno != api.ErrByte || l != nil {
			t.Errorf("P1602: %v: %v, %v", whole, l, errno)
		}
		if left == 0 {
			return
		}
		for _, c := range []byte{0, 1, 2, 7, '{', '}', 128, 255} {
			grow(append(b[:len(b):len(b)], c), left-1)
		}
	}
	grow([]byte("LYS1"), 6)
	grow(nil, 5)
}

// mended checks that bytes, with their right sum, are taken only if Pack tells them, and tells whether they are.
func mended(t *testing.T, body []byte) bool {
	t.Helper()
	b := slices.Concat(body, sum(body))
	l, errno := Unpack(b)
	from, to, count, also := Look(b)
	check(t, "P1602", "Look's error is Unpack's", also, errno)
	if errno == api.OK {
		again, _ := Pack(l)
		checkList(t, "P1602", "what Unpack took", again, b)
		plainFrom, plainTo := plainSpan(l)
		check(t, "P1602", "Look", [3]int{from, to, count}, [3]int{plainFrom, plainTo, len(l)})
		return true
	}
	if errno != api.ErrByte || l != nil || [3]int{from, to, count} != [3]int{} {
		t.Errorf("P1602: %v: %v, %v", b, l, errno)
	}
	return false
}

// level is a series of n samples that change little, and so have few bytes.
func level(n int) api.Series {
	s := one("1", upTo(n)...)
	for i := range s.Samples {
		s.Samples[i].V = i / 50
	}
	return s
}

// TestP1602UnpackOfEachOtherByte puts each byte in each place, with the right sum.
func TestP1602UnpackOfEachOtherByte(t *testing.T) {
	for name, l := range map[string][]api.Series{"none": nil, "one": {one("1", 1)}, "two": {one("1", 1, 2), one("2", 5)}, "chunks": {level(125)}} {
		b := packedWell(t, name, l)
		body := b[:len(b)-4]
		count := 0
		for i := range body {
			for c := range 256 {
				other := bytes.Clone(body)
				other[i] = byte(c)
				if mended(t, other) {
					count++
				}
			}
		}
		check(t, "P1602", name+": at least itself at each place", count >= len(body), true)
	}
}

// TestP1602UnpackOfSpoiltBytes turns, takes away and doubles bytes, and mends the sum: what is taken is just what Pack tells.
func TestP1602UnpackOfSpoiltBytes(t *testing.T) {
	dice := rand.New(rand.NewSource(160))
	yes, no := 0, 0
	for range 20000 {
		b := packedWell(t, "any", anySeries(dice))
		body := b[:len(b)-4]
		for range 1 + dice.Intn(2) {
			at := dice.Intn(len(body))
			switch dice.Intn(4) {
			case 0:
				body[at] ^= 1 << dice.Intn(8)
			case 1:
				body[at] = byte(dice.Intn(4))
			case 2:
				body = slices.Delete(body, at, at+1)
			default:
				body = slices.Insert(body, at, body[at])
			}
		}
		if mended(t, body) {
			yes++
		} else {
			no++
		}
	}
	check(t, "P1602", "some are taken, more are not", yes > 100 && no > 1000, true)
}

// spoil clears a list with its spare room.
func spoil[T any](l []T) {
	clear(l[:cap(l)])
}

func TestP1603AnswersAreNewMemory(t *testing.T) {
	l := oddSeries()
	want, wanted := shown(l), packedWell(t, "odd", l)
	spoil(packedWell(t, "odd", l))
	checkList(t, "P1603", "Pack again", packedWell(t, "odd", l), wanted)
	b := bytes.Clone(wanted)
	got, _ := Unpack(b)
	for _, s := range got {
		spoil(s.Labels)
		spoil(s.Samples)
	}
	spoil(got)
	checkList(t, "P1603", "the bytes", b, wanted)
	got, _ = Unpack(b)
	check(t, "P1603", "Unpack again", shown(got), want)
	check(t, "P1603", "what was handed in", shown(l), want)
}

func TestP1603ListsOfOneAnswerAreApart(t *testing.T) {
	want := shown(oddSeries())
	got, _ := Unpack(packedWell(t, "odd", oddSeries()))
	for _, s := range got {
		_ = append(s.Labels, of("q", "q", "r", "r")...)
		_ = append(s.Samples, at(77, 78, 79)...)
		check(t, "P1603", "behind a list", shown(got), want)
	}
	for i, s := range got {
		spoil(s.Labels)
		spoil(s.Samples)
		check(t, "P1603", "behind the first ones", shown(got[i+1:]), shown(oddSeries()[i+1:]))
	}
}

func TestP1603NothingIsKept(t *testing.T) {
	l := oddSeries()
	b := packedWell(t, "odd", l)
	want := bytes.Clone(b)
	for _, s := range l {
		spoil(s.Labels)
		spoil(s.Samples)
	}
	spoil(l)
	checkList(t, "P1603", "the lists are changed", b, want)
	got, _ := Unpack(b)
	spoil(b)
	check(t, "P1603", "the bytes are changed", shown(got), shown(oddSeries()))
}

// TestP1603NoStringIsKept lays the strings over bytes that are changed behind Pack.
func TestP1603NoStringIsKept(t *testing.T) {
	raw := []byte("aV")
	b := packedWell(t, "laid over", []api.Series{{Labels: of(unsafe.String(&raw[0], 1), unsafe.String(&raw[1], 1)), Samples: at(1)}})
	raw[0], raw[1] = 'q', 'q'
	checkList(t, "P1603", "the bytes", b, packedWell(t, "apart", []api.Series{{Labels: of("a", "V"), Samples: at(1)}}))
}

func TestP1603ArgumentsStay(t *testing.T) {
	l := append(make([]api.Series, 0, 30), oddSeries()...)
	for i := range l {
		l[i].Labels = append(make([]api.Label, 0, 20), l[i].Labels...)
		l[i].Samples = append(make([]api.Sample, 0, 600), l[i].Samples...)
	}
	bad := append(slices.Clone(l), api.Series{Labels: append(make([]api.Label, 0, 5), of("b", "1", "a", "1")...), Samples: at(2, 1)})
	state := func() string {
		out := shown(l[:cap(l)]) + shown(bad[:cap(bad)])
		for _, s := range bad {
			out += fmt.Sprintf("%q%v", s.Labels[:cap(s.Labels)], s.Samples[:cap(s.Samples)])
		}
		return out
	}
	was := state()
	for _, each := range [][]api.Series{l, bad, l[:5], {}} {
		Check(each)
		Span(each)
		Pack(each)
		check(t, "P1603", "what is handed in", state(), was)
	}
	b := packedWell(t, "odd", l)
	room := append(make([]byte, 0, len(b)+8), b...)
	for _, end := range []int{len(b), len(b) - 1, 4, 0} {
		Unpack(room[:end])
		Look(room[:end])
		checkList(t, "P1603", "the bytes", room[:cap(room)], append(bytes.Clone(b), make([]byte, cap(room)-len(b))...))
	}
}

func TestP1603SameAgain(t *testing.T) {
	l := oddSeries()
	want := packedWell(t, "odd", l)
	for range 20 {
		checkList(t, "P1603", "Pack", packedWell(t, "odd", oddSeries()), want)
		Pack([]api.Series{one("1", 2, 1)})
		Unpack(want[:len(want)-1])
		taken(t, "again", want, l)
	}
}

func TestChapter16Examples(t *testing.T) {
	b, errno := Pack(nil)
	check(t, "example", "none", errno, api.OK)
	checkList(t, "example", "none", b, plainSum([]byte{0x4C, 0x59, 0x53, 0x31, 0, 0, 0}))
	check(t, "example", "how many bytes", len(b), 11)
}

// FuzzUnpack seeks bytes that Unpack takes, the sum being mended, and Pack does not tell.
func FuzzUnpack(f *testing.F) {
	for _, l := range [][]api.Series{nil, {one("1", 1)}, {one("1", 1, 2), one("2", 5)}, oddSeries()} {
		b, _ := Pack(l)
		f.Add(b[:len(b)-4])
	}
	f.Fuzz(func(t *testing.T, body []byte) {
		mended(t, body)
	})
}
