package index

import (
	"bytes"
	"fmt"
	"math"
	"math/rand"
	"slices"
	"strconv"
	"strings"
	"testing"

	"lysimeter/api"
)

// plainPut is a number as varint.Put has it, by the chapter's words.
func plainPut(n int) []byte {
	var b []byte
	left := uint64(n)
	for left > 127 {
		b = append(b, byte(left%128+128))
		left /= 128
	}
	return append(b, byte(left))
}

// plainPack is the bytes of so many series and these posts, whether they can be or not.
func plainPack(count int, posts ...api.Post) []byte {
	b := append(plainPut(count), plainPut(len(posts))...)
	for _, p := range posts {
		for _, s := range []string{p.Label.Name, p.Label.Value} {
			b = append(append(b, plainPut(len(s))...), s...)
		}
		b = append(b, plainPut(len(p.List))...)
		for i, n := range p.List {
			if i > 0 {
				n -= p.List[i-1] + 1
			}
			b = append(b, plainPut(n)...)
		}
	}
	return b
}

func post(name, value string, list ...int) api.Post {
	return api.Post{Label: api.Label{Name: name, Value: value}, List: list}
}

// unpacked is the index of bytes that are one.
func unpacked(t *testing.T, name string, b []byte) *Index {
	t.Helper()
	x, errno := Unpack(b)
	if errno != api.OK || x == nil {
		t.Fatalf("P1503: %s: Unpack: %v of %v", name, errno, b)
	}
	checkList(t, "P1503", name+": packed again", x.Pack(), b)
	return x
}

// refused checks that the bytes are those of no index.
func refused(t *testing.T, name string, b []byte) {
	t.Helper()
	x, errno := Unpack(b)
	check(t, "P1503", name, errno, api.ErrByte)
	if x != nil {
		t.Errorf("P1503: %s: an index beside an error", name)
	}
}

func TestP1503Bytes(t *testing.T) {
	x := made(t, of("a", "1"), of("a", "1", "bc", "22"), of("a", "\xff"))
	want := []byte{3, 3, 1, 'a', 1, '1', 2, 0, 0, 1, 'a', 1, 255, 1, 2, 2, 'b', 'c', 2, '2', '2', 1, 1}
	checkList(t, "P1503", "Pack", x.Pack(), want)
	y := unpacked(t, "these", want)
	tells(t, "unpacked", y, [][]api.Label{of("a", "1"), of("a", "1", "bc", "22"), of("a", "\xff")})
}

func TestP1503PackAndUnpack(t *testing.T) {
	many := numbered(api.MaxSeries)
	for i := range many {
		many[i] = append(of("a", "1"), many[i]...)
	}
	full := make([][]api.Label, api.MaxSeries) // as many pairs as can be
	for i := range full {
		full[i] = wide(api.MaxLabels)
		for k := range full[i] {
			full[i][k].Value = strconv.Itoa(i)
		}
	}
	for name, l := range map[string][][]api.Label{"odd": oddSeries(), "many": many, "full": full, "one": {of("a", "1")}, "128": numbered(128), "127": numbered(127)} {
		x := made(t, l...)
		checkList(t, "P1503", name, x.Pack(), plainPack(len(l), plainPosts(l)...))
		y := unpacked(t, name, x.Pack())
		check(t, "P1503", name+": Posts", shown(y.Posts()), shown(x.Posts()))
		checkList(t, "P1503", name+": Names", y.Names(), x.Names())
		all, errno := y.Find(nil)
		check(t, "P1503", name+": Find", errno, api.OK)
		check(t, "P1503", name+": how many", len(all), len(l))
	}
}

func TestP1503UnpackRefusesCutAndLonger(t *testing.T) {
	refused(t, "nil", nil)
	refused(t, "no bytes", []byte{})
	for name, l := range map[string][][]api.Label{"none": nil, "odd": oddSeries(), "200": numbered(200)} {
		b := made(t, l...).Pack()
		for i := range b {
			refused(t, name+", cut at "+strconv.Itoa(i), b[:i])
		}
		for _, behind := range [][]byte{{0}, {1}, {255}, {0, 0}, b} {
			refused(t, name+", and more behind it", slices.Concat(b, behind))
		}
	}
}

func TestP1503UnpackRefusesPosts(t *testing.T) {
	unpacked(t, "a good one", plainPack(2, post("a", "1", 0, 1), post("b", "2", 1)))
	var apart, same []api.Post
	for i := range api.MaxSeries + 1 {
		apart = append(apart, post("s", fmt.Sprintf("%04d", i), i))
	}
	for i := range api.MaxLabels + 1 {
		same = append(same, post(fmt.Sprintf("s%02d", i), "1", 0))
	}
	unpacked(t, "as many series as can be", plainPack(api.MaxSeries, apart[:api.MaxSeries]...))
	unpacked(t, "as many labels as can be", plainPack(1, same[:api.MaxLabels]...))
	long := strings.Repeat("x", api.MaxLabel)
	unpacked(t, "texts as long as can be", plainPack(1, post(long, long, 0)))
	for name, b := range map[string][]byte{
		"too many series":                  plainPack(api.MaxSeries+1, apart...),
		"too many labels":                  plainPack(1, same...),
		"series without posts":             plainPack(1),
		"many series without posts":        plainPack(api.MaxSeries),
		"a last series without labels":     plainPack(3, post("a", "1", 0), post("b", "1", 1)),
		"a series between without labels":  plainPack(3, post("a", "1", 0), post("b", "1", 2)),
		"a number that is no series":       plainPack(1, post("a", "1", 0, 1)),
		"a far number that is no series":   plainPack(1, post("a", "1", 0, 1<<40-1)),
		"a number beyond all":              plainPack(1, post("a", "1", 1<<40)),
		"a post, and no series":            plainPack(0, post("a", "1", 0)),
		"an empty post, and no series":     plainPack(0, post("a", "1")),
		"an empty post":                    plainPack(1, post("a", "1", 0), post("b", "1")),
		"an empty post ahead":              plainPack(1, post("a", "1"), post("b", "1", 0)),
		"an empty post of no name":         plainPack(1, post("", "1"), post("b", "1", 0)),
		"names that fall":                  plainPack(2, post("b", "1", 0), post("a", "1", 1)),
		"names that fall in one series":    plainPack(1, post("b", "1", 0), post("a", "1", 0)),
		"values that fall":                 plainPack(2, post("a", "2", 0), post("a", "1", 1)),
		"values that fall as bytes":        plainPack(2, post("a", "2", 0), post("a", "10", 1)),
		"a pair in two posts":              plainPack(2, post("a", "1", 0), post("a", "1", 1)),
		"a pair in two posts of one":       plainPack(1, post("a", "1", 0), post("a", "1", 0)),
		"two values of a name":             plainPack(1, post("a", "1", 0), post("a", "2", 0)),
		"two series that are one":          plainPack(2, post("a", "1", 0, 1)),
		"two of three series that are one": plainPack(3, post("a", "1", 0, 1, 2), post("b", "1", 0, 2)),
		"numbers that fall":                plainPack(2, post("a", "1", 1, 0), post("b", "1", 1)),
		"a number twice":                   plainPack(1, post("a", "1", 0, 0)),
		"an empty name":                    plainPack(1, post("", "1", 0)),
		"a name of a digit":                plainPack(1, post("0", "1", 0)),
		"a name with a dash":               plainPack(1, post("a-", "1", 0)),
		"a long name":                      plainPack(1, post(long+"x", "1", 0)),
		"an empty value":                   plainPack(1, post("a", "", 0)),
		"a long value":                     plainPack(1, post("a", long+"x", 0)),
	} {
		refused(t, name, b)
	}
}

func TestP1503UnpackRefusesNumbers(t *testing.T) {
	one := []byte{1, 'a', 1, '1', 1, 0} // a post
	unpacked(t, "a good one", slices.Concat([]byte{1, 1}, one))
	for name, n := range map[string]int{"-1": -1, "the least": math.MinInt, "the greatest": math.MaxInt, "2^32 and the right one": 1<<32 + 1, "2^62": 1 << 62, "2^40": 1 << 40} {
		refused(t, name+" series", slices.Concat(plainPut(n), []byte{1}, one))
		refused(t, name+" series, no posts", slices.Concat(plainPut(n), []byte{0}))
		refused(t, name+" posts", slices.Concat([]byte{1}, plainPut(n), one))
		refused(t, name+" posts of no series", slices.Concat([]byte{0}, plainPut(n)))
		refused(t, name+" bytes of a name", slices.Concat([]byte{1, 1}, plainPut(n), one[1:]))
		refused(t, name+" bytes of a value", slices.Concat([]byte{1, 1, 1, 'a'}, plainPut(n), one[3:]))
		refused(t, name+" numbers of a post", slices.Concat([]byte{1, 1, 1, 'a', 1, '1'}, plainPut(n), one[5:]))
		refused(t, name+" as a number", slices.Concat([]byte{1, 1, 1, 'a', 1, '1', 1}, plainPut(n)))
	}
	for name, b := range map[string][]byte{
		"series in more bytes than they need": slices.Concat([]byte{129, 0, 1}, one),
		"posts in more bytes than they need":  slices.Concat([]byte{1, 129, 0}, one),
		"a name's length in more bytes":       {1, 1, 129, 0, 'a', 1, '1', 1, 0},
		"a value's length in more bytes":      {1, 1, 1, 'a', 129, 0, '1', 1, 0},
		"a list's length in more bytes":       {1, 1, 1, 'a', 1, '1', 129, 0, 0},
		"a number in more bytes":              {1, 1, 1, 'a', 1, '1', 1, 128, 0},
		"more than 64 bits":                   {255, 255, 255, 255, 255, 255, 255, 255, 255, 2, 0},
		"no end":                              {255, 255},
		"one post too few":                    slices.Concat([]byte{1, 0}, one),
		"one post too many":                   slices.Concat([]byte{1, 2}, one),
		"one series too many":                 slices.Concat([]byte{2, 1}, one),
		"no series":                           slices.Concat([]byte{0, 1}, one),
		"1001 posts of none":                  slices.Concat(plainPut(0), plainPut(1001), make([]byte, 3003)),
	} {
		refused(t, name, b)
	}
}

// TestP1503UnpackTakesPacksBytesAlone goes over all short rows of some bytes: what is taken is just what Pack tells of series that Make takes.
func TestP1503UnpackTakesPacksBytesAlone(t *testing.T) {
	some := []byte{0, 1, 2, 'a', 'b', 128}
	var taken []string
	var grow func(b []byte)
	grow = func(b []byte) {
		if x, errno := Unpack(b); errno == api.OK {
			taken = append(taken, string(b))
			checkList(t, "P1503", "what Unpack took", x.Pack(), b)
		} else if errno != api.ErrByte || x != nil {
			t.Errorf("P1503: %v: %v, %v", b, x, errno)
		}
		if len(b) == 8 {
			return
		}
		for _, c := range some {
			grow(append(b[:len(b):len(b)], c))
		}
	}
	grow(nil)
	want := []string{"\x00\x00"}
	for _, name := range []string{"a", "b"} { // there is room for one post alone, and two series would be one
		for _, value := range []string{"\x00", "\x01", "\x02", "a", "b", "\x80"} {
			want = append(want, "\x01\x01\x01"+name+"\x01"+value+"\x01\x00")
		}
	}
	checkList(t, "P1503", "what is taken", rising(taken), rising(want))
}

// TestP1503UnpackOfSpoiltBytes turns, takes away and doubles bytes: what is taken is just what Pack tells.
func TestP1503UnpackOfSpoiltBytes(t *testing.T) {
	dice := rand.New(rand.NewSource(1503))
	taken, not := 0, 0
	for range 20000 {
		b := made(t, anySeries(dice)...).Pack()
		at := dice.Intn(len(b))
		switch dice.Intn(4) {
		case 0:
			b[at] ^= byte(1 + dice.Intn(255))
		case 1:
			b[at] = byte(dice.Intn(4))
		case 2:
			b = slices.Delete(b, at, at+1)
		default:
			b = slices.Insert(b, at, b[at])
		}
		x, errno := Unpack(b)
		switch {
		case errno == api.OK && bytes.Equal(x.Pack(), b):
			taken++
		case errno == api.ErrByte && x == nil:
			not++
		default:
			t.Errorf("P1503: %v: %v, %v", b, x, errno)
		}
	}
	check(t, "P1503", "some are taken, more are not", taken > 100 && not > 1000, true)
}

// FuzzUnpack seeks bytes that Unpack takes and Pack does not tell.
func FuzzUnpack(f *testing.F) {
	f.Add([]byte{0, 0})
	f.Add([]byte{2, 2, 1, 'a', 1, '1', 2, 0, 0, 1, 'b', 1, '2', 1, 1})
	f.Fuzz(func(t *testing.T, b []byte) {
		x, errno := Unpack(b)
		if errno == api.OK && !bytes.Equal(x.Pack(), b) || errno != api.OK && (errno != api.ErrByte || x != nil) {
			t.Errorf("P1503: %v: %v, %v", b, x, errno)
		}
	})
}
