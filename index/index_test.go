package index

import (
	"bytes"
	"fmt"
	"math/rand"
	"slices"
	"strconv"
	"strings"
	"testing"
	"unsafe"

	"lysimeter/api"
	"lysimeter/match"
)

func check[T comparable](t *testing.T, promise, name string, got, want T) {
	t.Helper()
	if got != want {
		t.Errorf("%s: %s: %#v, want %#v", promise, name, got, want)
	}
}

func checkList[T comparable](t *testing.T, promise, name string, got, want []T) {
	t.Helper()
	if !slices.Equal(got, want) {
		t.Errorf("%s: %s: %#v, want %#v", promise, name, got, want)
	}
}

// of is labels out of names and values by turns.
func of(s ...string) []api.Label {
	var out []api.Label
	for pair := range slices.Chunk(s, 2) {
		out = append(out, api.Label{Name: pair[0], Value: pair[1]})
	}
	return out
}

// numbered is n series of one label each.
func numbered(n int) [][]api.Label {
	var out [][]api.Label
	for i := range n {
		out = append(out, of("s", strconv.Itoa(i)))
	}
	return out
}

// wide is a series of n labels, by rising names.
func wide(n int) []api.Label {
	var out []api.Label
	for i := range n {
		out = append(out, api.Label{Name: "n" + strconv.Itoa(10+i), Value: "v"})
	}
	return out
}

// made is the index of series that can be.
func made(t *testing.T, l ...[]api.Label) *Index {
	t.Helper()
	x, errno := Make(l)
	if errno != api.OK || x == nil {
		t.Fatalf("P1501: %q: %v", l, errno)
	}
	return x
}

// shown is posts as a text.
func shown(l []api.Post) string {
	var out strings.Builder
	for _, p := range l {
		fmt.Fprintf(&out, "%q%v ", p.Label, p.List)
	}
	return out.String()
}

// rising is texts by their bytes, each once.
func rising(l []string) []string {
	out := slices.Clone(l)
	slices.Sort(out)
	return slices.Compact(out)
}

// plainNames is the names that the series have.
func plainNames(l [][]api.Label) []string {
	var out []string
	for _, x := range slices.Concat(l...) {
		out = append(out, x.Name)
	}
	return rising(out)
}

// plainValues is the values that the series have of a name.
func plainValues(l [][]api.Label, name string) []string {
	var out []string
	for _, x := range slices.Concat(l...) {
		if x.Name == name {
			out = append(out, x.Value)
		}
	}
	return rising(out)
}

// numbers is those of the series that are taken.
func numbers(l [][]api.Label, takes func(series []api.Label) bool) []int {
	var out []int
	for i, series := range l {
		if takes(series) {
			out = append(out, i)
		}
	}
	return out
}

// plainPosts is the posts, pair by pair, each looked for in all series.
func plainPosts(l [][]api.Label) []api.Post {
	var out []api.Post
	for _, name := range plainNames(l) {
		for _, value := range plainValues(l, name) {
			pair := api.Label{Name: name, Value: value}
			out = append(out, api.Post{Label: pair, List: numbers(l, func(series []api.Label) bool { return slices.Contains(series, pair) })})
		}
	}
	return out
}

// tells checks all that an index of the series tells, but Find.
func tells(t *testing.T, name string, x *Index, l [][]api.Label) {
	t.Helper()
	check(t, "P1502", name+": Posts", shown(x.Posts()), shown(plainPosts(l)))
	checkList(t, "P1502", name+": Names", x.Names(), plainNames(l))
	for _, n := range append(plainNames(l), "", "none", "a\x00", "é") {
		checkList(t, "P1502", name+": Values of "+n, x.Values(n), plainValues(l, n))
	}
	checkList(t, "P1503", name+": Pack", x.Pack(), plainPack(len(l), plainPosts(l)...))
}

// finds checks that an index finds the series that match.Fits tells, and refuses matchers as match.Check does.
func finds(t *testing.T, name string, x *Index, l [][]api.Label, m ...api.Match) {
	t.Helper()
	got, errno := x.Find(m)
	name = fmt.Sprintf("%s: Find %#v", name, m)
	check(t, "P1502", name, errno, match.Check(m))
	checkList(t, "P1502", name, got, numbers(l, func(series []api.Label) bool { return match.Fits(m, series) }))
}

// oddSeries are series whose names and values are near each other, or have bytes of all kinds.
func oddSeries() [][]api.Label {
	return [][]api.Label{
		of("a", "1"), of("a", "1", "b", "2"), of("b", "2"), of("b", "22", "c", "x"), of("B", "2", "_", "2", "b", "20"),
		of("a", `1",b="2`), of("a", "\x00"), of("a", "\xff"), of("a", "é"), of("a", "\xc3"), of("ab", "2"), of("a", "b2"),
		of("A", "1", "Z9", "1", "_", "1", "a", "1", "z", "1"), wide(api.MaxLabels), of(strings.Repeat("n", 64), strings.Repeat("v", 64)),
		of("a", "1 "), of("a", "10"), of("a", "01"), of("a0", "1"), of("a_", "1"), of("c", "x"),
	}
}

func TestP1501MakeTakes(t *testing.T) {
	for name, l := range map[string][][]api.Label{
		"nil":                                     nil,
		"none":                                    {},
		"one":                                     {of("a", "1")},
		"as many as can be":                       numbered(api.MaxSeries),
		"as many labels as can be":                {wide(api.MaxLabels)},
		"series that do not rise":                 {of("b", "1"), of("a", "2"), of("a", "1")},
		"a beginning of another":                  {of("a", "1", "b", "2"), of("a", "1")},
		"a value that looks like labels":          {of("a", "1", "b", "2"), of("a", `1",b="2`)},
		"one name, other values":                  {of("a", "1"), of("a", "2"), of("a", "12")},
		"one value, other names":                  {of("a", "1"), of("b", "1"), of("ab", "1")},
		"names and values that are one text":      {of("a", "bc"), of("ab", "c")},
		"pairs that are one text, side by side":   {of("a", "1", "b", "2"), of("a", "1b2")},
		"names and values as long as can be":      {of(strings.Repeat("a", 64), strings.Repeat("b", 64))},
		"values that differ in their last byte":   {of("a", strings.Repeat("b", 63)+"0"), of("a", strings.Repeat("b", 63)+"1")},
		"values of bytes that are no runes":       {of("a", "\xff"), of("a", "\xfe"), of("a", "\xef\xbf\xbd")},
		"odd ones":                                oddSeries(),
		"names by rising bytes, great ones first": {of("A", "1", "Z", "1", "_", "1", "a", "1")},
	} {
		x, errno := Make(l)
		check(t, "P1501", name, errno, api.OK)
		if x == nil {
			t.Errorf("P1501: %s: no index", name)
			continue
		}
		tells(t, name, x, l)
	}
}

// withOne is as many series as can be, the one at the place being another.
func withOne(place int, series []api.Label) [][]api.Label {
	out := numbered(api.MaxSeries)
	out[place] = series
	return out
}

func TestP1501MakeRefusesLabels(t *testing.T) {
	good := of("a", "1")
	for name, bad := range map[string][]api.Label{
		"no labels":               nil,
		"an empty list":           {},
		"too many labels":         wide(api.MaxLabels + 1),
		"falling names":           of("b", "1", "a", "1"),
		"falling names, in part":  of("a", "1", "c", "1", "b", "1"),
		"small letters first":     of("a", "1", "Z", "1"),
		"a name twice":            of("a", "1", "a", "2"),
		"a label twice":           of("a", "1", "a", "1"),
		"an empty name":           of("", "1"),
		"a name that is too long": of(strings.Repeat("a", 65), "1"),
		"a name of a digit":       of("1", "1"),
		"a name with a dash":      of("a-b", "1"),
		"a name beyond bytes":     of("é", "1"),
		"an empty value":          of("a", ""),
		"a second empty value":    of("a", "1", "b", ""),
		"a value too long":        of("a", strings.Repeat("1", 65)),
	} {
		for where, l := range map[string][][]api.Label{
			"alone": {bad}, "first": {bad, good}, "last": {good, bad}, "behind two that are one": {good, good, bad}, "ahead of two that are one": {bad, good, good},
			"twice": {bad, bad}, "the last of many": withOne(api.MaxSeries-1, bad),
		} {
			refusedToMake(t, name+", "+where, l, api.ErrLabel)
		}
	}
}

func refusedToMake(t *testing.T, name string, l [][]api.Label, want api.Errno) {
	t.Helper()
	x, errno := Make(l)
	check(t, "P1501", name, errno, want)
	if x != nil {
		t.Errorf("P1501: %s: an index beside an error", name)
	}
}

func TestP1501MakeRefusesTooMany(t *testing.T) {
	for name, l := range map[string][][]api.Label{
		"one too many":               numbered(api.MaxSeries + 1),
		"one too many, all the same": slices.Repeat([][]api.Label{of("a", "1")}, api.MaxSeries+1),
		"one too many, none good":    make([][]api.Label, api.MaxSeries+1),
		"far too many":               make([][]api.Label, 5*api.MaxSeries),
	} {
		refusedToMake(t, name, l, api.ErrLong)
	}
}

func TestP1501MakeRefusesTwoThatAreOne(t *testing.T) {
	for name, l := range map[string][][]api.Label{
		"two":                   {of("a", "1"), of("a", "1")},
		"two of two labels":     {of("a", "1", "b", "2"), of("a", "1", "b", "2")},
		"far apart":             {of("a", "1"), of("a", "2"), of("b", "1"), of("a", "1")},
		"three":                 {of("a", "1"), of("a", "1"), of("a", "1")},
		"two twos":              {of("a", "1"), of("b", "1"), of("a", "1"), of("b", "1")},
		"the last behind":       append(slices.Clone(oddSeries()), of("c", "x")),
		"of many":               withOne(api.MaxSeries-1, of("s", "0")),
		"all":                   slices.Repeat([][]api.Label{of("a", "1")}, api.MaxSeries),
		"of bytes no runes are": {of("a", "\xff"), of("a", "\xfe"), of("a", "\xff")},
	} {
		refusedToMake(t, name, l, api.ErrExist)
	}
}

func TestP1502ANumberIsAPlace(t *testing.T) {
	x := made(t, of("b", "1"), of("a", "2"), of("a", "1", "b", "1"), of("a", "1"))
	for i, want := range []api.Post{
		{Label: api.Label{Name: "a", Value: "1"}, List: []int{2, 3}},
		{Label: api.Label{Name: "a", Value: "2"}, List: []int{1}},
		{Label: api.Label{Name: "b", Value: "1"}, List: []int{0, 2}},
	} {
		got := x.Posts()[i]
		check(t, "P1502", "the pair", got.Label, want.Label)
		checkList(t, "P1502", "the list", got.List, want.List)
	}
	check(t, "P1502", "how many posts", len(x.Posts()), 3)
}

func TestP1502Order(t *testing.T) {
	x := made(t, of("a", "\xff"), of("a", "2"), of("a", "10"), of("a", "1"), of("B", "x", "_", "x", "b", "x", "b0", "x"), of("a", "\x00"))
	checkList(t, "P1502", "Names", x.Names(), []string{"B", "_", "a", "b", "b0"})
	checkList(t, "P1502", "Values", x.Values("a"), []string{"\x00", "1", "10", "2", "\xff"})
	checkList(t, "P1502", "Values of one", x.Values("b"), []string{"x"})
	for _, name := range []string{"", "A", "c", "b1", "aa", " a", "x", "é", strings.Repeat("a", 100)} {
		check(t, "P1502", "Values of a name that none has: "+name, len(x.Values(name)), 0)
	}
}

func TestP1502FindOne(t *testing.T) {
	l := oddSeries()
	x := made(t, l...)
	values := []string{"", "1", "2", "22", "x", "b2", "\x00", "\xff", "é", "\xc3", `1"`, `1",b="2`, "v", strings.Repeat("v", 64), "none"}
	for _, name := range append(plainNames(l), "none", "nine", "n1") {
		for _, value := range values {
			for _, kind := range []int{api.MEqual, api.MNot, api.MPrefix} {
				finds(t, "odd", x, l, api.Match{Kind: kind, Name: name, Value: value})
			}
		}
		finds(t, "odd", x, l, api.Match{Kind: api.MHas, Name: name})
	}
	finds(t, "odd", x, l)
}

func TestP1502FindEdges(t *testing.T) {
	x := made(t, of("a", "1"), of("a", "1", "b", "2"), of("b", "22", "c", "x"))
	for i, each := range []struct {
		m    []api.Match
		want []int
	}{
		{nil, []int{0, 1, 2}},
		{[]api.Match{}, []int{0, 1, 2}},
		{[]api.Match{{Kind: api.MEqual, Name: "b"}}, []int{0}},
		{[]api.Match{{Kind: api.MNot, Name: "b"}}, []int{1, 2}},
		{[]api.Match{{Kind: api.MPrefix, Name: "b"}}, []int{0, 1, 2}},
		{[]api.Match{{Kind: api.MHas, Name: "b"}}, []int{1, 2}},
		{[]api.Match{{Kind: api.MEqual, Name: "z"}}, []int{0, 1, 2}},
		{[]api.Match{{Kind: api.MNot, Name: "z"}}, nil},
		{[]api.Match{{Kind: api.MPrefix, Name: "z"}}, []int{0, 1, 2}},
		{[]api.Match{{Kind: api.MHas, Name: "z"}}, nil},
		{[]api.Match{{Kind: api.MNot, Name: "z", Value: "1"}}, []int{0, 1, 2}},
		{[]api.Match{{Kind: api.MPrefix, Name: "b", Value: "2"}}, []int{1, 2}},
		{[]api.Match{{Kind: api.MPrefix, Name: "b", Value: "222"}}, nil},
		{[]api.Match{{Kind: api.MNot, Name: "b", Value: "2"}}, []int{0, 2}},
		{[]api.Match{{Kind: api.MEqual, Name: "a", Value: "1"}, {Kind: api.MNot, Name: "b", Value: "2"}}, []int{0}},
		{[]api.Match{{Kind: api.MEqual, Name: "a", Value: "1"}, {Kind: api.MEqual, Name: "a", Value: "2"}}, nil},
		{slices.Repeat([]api.Match{{Kind: api.MHas, Name: "b"}}, api.MaxMatch), []int{1, 2}},
	} {
		got, errno := x.Find(each.m)
		check(t, "P1502", "Find "+strconv.Itoa(i), errno, api.OK)
		checkList(t, "P1502", "Find "+strconv.Itoa(i), got, each.want)
	}
}

func TestP1502FindRefuses(t *testing.T) {
	good := api.Match{Kind: api.MHas, Name: "a"}
	for _, l := range [][][]api.Label{nil, {of("a", "1")}, oddSeries()} {
		x := made(t, l...)
		for name, each := range map[string]struct {
			m    []api.Match
			want api.Errno
		}{
			"too many":           {slices.Repeat([]api.Match{good}, api.MaxMatch+1), api.ErrLong},
			"too many, none":     {make([]api.Match, api.MaxMatch+1), api.ErrLong},
			"kind 0":             {[]api.Match{{Name: "a"}}, api.ErrLabel},
			"kind 5":             {[]api.Match{{Kind: 5, Name: "a"}}, api.ErrLabel},
			"kind -1":            {[]api.Match{{Kind: -1, Name: "a"}}, api.ErrLabel},
			"a great kind":       {[]api.Match{{Kind: 1 << 62, Name: "a"}}, api.ErrLabel},
			"no name":            {[]api.Match{{Kind: api.MEqual, Value: "1"}}, api.ErrLabel},
			"a long value":       {[]api.Match{{Kind: api.MEqual, Name: "a", Value: strings.Repeat("1", 65)}}, api.ErrLabel},
			"a value of MHas":    {[]api.Match{{Kind: api.MHas, Name: "a", Value: "1"}}, api.ErrLabel},
			"the last of three":  {[]api.Match{good, good, {Kind: 9, Name: "a"}}, api.ErrLabel},
			"behind what is not": {[]api.Match{{Kind: api.MHas, Name: "z"}, {Kind: api.MHas, Name: "0"}}, api.ErrLabel},
		} {
			got, errno := x.Find(each.m)
			check(t, "P1502", name, errno, each.want)
			check(t, "P1502", name+": numbers", len(got), 0)
		}
	}
}

func TestP1502NoSeries(t *testing.T) {
	unpacked, _ := Unpack([]byte{0, 0})
	for name, x := range map[string]*Index{"of nil": made(t), "of an empty list": made(t, [][]api.Label{}...), "unpacked": unpacked, "not made": {}} {
		tells(t, name, x, nil)
		finds(t, name, x, nil)
		for kind := range 6 {
			finds(t, name, x, nil, api.Match{Kind: kind, Name: "a"})
		}
		checkList(t, "P1503", name+": Pack", x.Pack(), []byte{0, 0})
	}
}

// anySeries is different series of few names and values.
func anySeries(dice *rand.Rand) [][]api.Label {
	var out [][]api.Label
	for range dice.Intn(20) {
		var series []api.Label
		for _, name := range []string{"B", "_", "a", "aa", "b"} {
			if dice.Intn(2) == 0 {
				series = append(series, api.Label{Name: name, Value: []string{"1", "11", "12", "2", "\xff"}[dice.Intn(5)]})
			}
		}
		if len(series) > 0 && !slices.ContainsFunc(out, func(x []api.Label) bool { return slices.Equal(x, series) }) {
			out = append(out, series)
		}
	}
	return out
}

// anyMatch is a matcher, now and then one that can't be.
func anyMatch(dice *rand.Rand) api.Match {
	m := api.Match{Kind: 1 + dice.Intn(4), Name: []string{"B", "_", "a", "aa", "b", "c"}[dice.Intn(6)]}
	if m.Kind != api.MHas || dice.Intn(20) == 0 {
		m.Value = []string{"", "1", "11", "12", "2", "3", "\xff"}[dice.Intn(7)]
	}
	if dice.Intn(100) == 0 {
		m.Kind = dice.Intn(9) - 2
	}
	return m
}

func TestP1502Random(t *testing.T) {
	dice := rand.New(rand.NewSource(1502))
	some := 0
	for play := range 150 {
		name := "play " + strconv.Itoa(play)
		l := anySeries(dice)
		x := made(t, l...)
		tells(t, name, x, l)
		y := unpacked(t, name, x.Pack())
		for range 40 {
			var m []api.Match
			for range dice.Intn(4) {
				m = append(m, anyMatch(dice))
			}
			finds(t, name, x, l, m...)
			finds(t, name+", unpacked", y, l, m...)
			if got, _ := x.Find(m); len(got) > 0 && len(got) < len(l) {
				some++
			}
		}
	}
	check(t, "P1502", "some are found, and some are not", some > 1000, true)
}

// whole is what an index tells, as one text.
func whole(x *Index) string {
	found, errno := x.Find([]api.Match{{Kind: api.MHas, Name: "a"}})
	all, _ := x.Find(nil)
	return fmt.Sprintf("%s %q %q %v %v %v %v", shown(x.Posts()), x.Names(), x.Values("a"), x.Pack(), found, all, errno)
}

func TestP1504AnswersAreNewMemory(t *testing.T) {
	l := oddSeries()
	packed := made(t, l...).Pack()
	for name, x := range map[string]*Index{"made": made(t, l...), "unpacked": unpacked(t, "odd", packed)} {
		want := whole(x)
		posts := x.Posts()
		spoil(posts)
		for _, each := range x.Posts() {
			spoil(each.List)
		}
		spoil(x.Names())
		spoil(x.Values("a"))
		spoil(x.Pack())
		for _, m := range []api.Match{{Kind: api.MEqual, Name: "a", Value: "1"}, {Kind: api.MEqual, Name: "a"}, {Kind: api.MNot, Name: "a"}, {Kind: api.MPrefix, Name: "a"}, {Kind: api.MPrefix, Name: "a", Value: "1"}, {Kind: api.MHas, Name: "a"}} {
			found, _ := x.Find([]api.Match{m})
			spoil(found)
		}
		all, _ := x.Find(nil)
		spoil(all)
		check(t, "P1504", name, whole(x), want)
	}
}

// spoil clears a list with its spare room.
func spoil[T any](l []T) {
	clear(l[:cap(l)])
}

func TestP1504ListsOfOneAnswerAreApart(t *testing.T) {
	x := made(t, oddSeries()...)
	want := shown(x.Posts())
	posts := x.Posts()
	for i := range posts {
		_ = append(posts[i].List, 77, 78, 79)
		check(t, "P1504", "behind a list", shown(posts), want)
	}
}

func TestP1504NothingIsKept(t *testing.T) {
	l := oddSeries()
	x := made(t, l...)
	want := whole(x)
	for i := range l {
		spoil(l[i])
	}
	spoil(l)
	check(t, "P1504", "the lists are changed", whole(x), want)
	b := x.Pack()
	y := unpacked(t, "odd", b)
	spoil(b)
	check(t, "P1504", "the bytes are changed", whole(y), want)
}

// TestP1504NoStringIsKept lays the strings over bytes that are changed behind Make. The pair comes twice, since a map may take the newer of two equal keys.
func TestP1504NoStringIsKept(t *testing.T) {
	raw := []byte("aVbWaV")
	text := func(at int) string { return unsafe.String(&raw[at], 1) }
	x := made(t, of(text(0), text(1)), of(text(4), text(5), text(2), text(3)))
	want := whole(made(t, of("a", "V"), of("a", "V", "b", "W")))
	check(t, "P1504", "ahead", whole(x), want)
	for i := range raw {
		raw[i] = 'q'
	}
	check(t, "P1504", "behind", whole(x), want)
}

func TestP1504ArgumentsStay(t *testing.T) {
	l := append(make([][]api.Label, 0, 40), oddSeries()...)
	for i := range l {
		l[i] = append(make([]api.Label, 0, 20), l[i]...)
	}
	bad := append(make([]api.Label, 0, 5), of("b", "1", "a", "1")...)
	m := append(make([]api.Match, 0, 5), api.Match{Kind: api.MEqual, Name: "a", Value: "1"}, api.Match{Kind: api.MHas, Name: "a"})
	state := func() string {
		out := fmt.Sprintf("%q %q %#v", l[:cap(l)], bad[:cap(bad)], m[:cap(m)])
		for _, each := range l {
			out += fmt.Sprintf("%q", each[:cap(each)])
		}
		return out
	}
	was := state()
	x := made(t, l...)
	Make(append(slices.Clone(l), bad))
	x.Find(m)
	check(t, "P1504", "what is handed in", state(), was)
	b := x.Pack()
	room := append(make([]byte, 0, len(b)+8), b...)
	Unpack(room)
	Unpack(room[:len(b)-1])
	checkList(t, "P1504", "the bytes", room[:cap(room)], append(bytes.Clone(b), make([]byte, cap(room)-len(b))...))
}

func TestP1504SameAgain(t *testing.T) {
	want := whole(made(t, oddSeries()...))
	x := made(t, oddSeries()...)
	for range 30 {
		check(t, "P1504", "another index", whole(made(t, oddSeries()...)), want)
		check(t, "P1504", "the same index", whole(x), want)
	}
}

func TestP1504IndexesAreApart(t *testing.T) {
	x := made(t, of("a", "1"))
	want := whole(x)
	made(t, of("a", "1", "b", "2"), of("a", "1"))
	Make([][]api.Label{of("a", "2"), of("a", "2")})
	Unpack([]byte{1, 1, 1, 'a', 1, '2', 1, 0})
	check(t, "P1504", "the first one", whole(x), want)
}

func TestChapter15Examples(t *testing.T) {
	x := made(t, of("a", "1"), of("a", "1", "b", "2"))
	found, errno := x.Find([]api.Match{{Kind: api.MEqual, Name: "a", Value: "1"}})
	check(t, "example", "a=1", errno, api.OK)
	checkList(t, "example", "a=1", found, []int{0, 1})
	found, errno = x.Find([]api.Match{{Kind: api.MNot, Name: "b", Value: "2"}})
	check(t, "example", "b!=2", errno, api.OK)
	checkList(t, "example", "b!=2", found, []int{0})
}
