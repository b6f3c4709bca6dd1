package merge

import (
	"fmt"
	"math"
	"slices"
	"strings"
	"testing"

	"lysimeter/api"
	"lysimeter/labels"
)

func check[T comparable](t *testing.T, promise, name string, got, want T) {
	t.Helper()
	if got != want {
		t.Errorf("%s: %s: %#v, want %#v", promise, name, got, want)
	}
}

func checkList[T comparable](t *testing.T, promise, name string, got, want []T) {
	t.Helper()
	if !slices.Equal(got, want) {
		t.Errorf("%s: %s: %v, want %v", promise, name, got, want)
	}
}

// of is labels out of names and values by turns.
func of(s ...string) []api.Label {
	var out []api.Label
	for pair := range slices.Chunk(s, 2) {
		out = append(out, api.Label{Name: pair[0], Value: pair[1]})
	}
	return out
}

// at is samples out of times and values by turns.
func at(n ...int) []api.Sample {
	var out []api.Sample
	for pair := range slices.Chunk(n, 2) {
		out = append(out, api.Sample{T: pair[0], V: pair[1]})
	}
	return out
}

// one is the series of one label, with samples out of times and values by turns.
func one(value string, n ...int) api.Series {
	return api.Series{Labels: of("a", value), Samples: at(n...)}
}

// shown is series as a text, which nil lists and empty ones have alike.
func shown(l []api.Series) string {
	var out strings.Builder
	for _, s := range l {
		fmt.Fprintf(&out, "%q%v ", s.Labels, s.Samples)
	}
	return out.String()
}

// row is samples of the times from, from + step and so on, n of them, each with the value v.
func row(from, step, n, v int) []api.Sample {
	var out []api.Sample
	for i := range n {
		out = append(out, api.Sample{T: from + i*step, V: v})
	}
	return out
}

func TestExamples(t *testing.T) {
	checkList(t, "P1801", "the example", Samples([][]api.Sample{at(1, 'a', 2, 'b'), at(2, 'c')}), at(1, 'a', 2, 'c'))
}

func TestP1801Samples(t *testing.T) {
	for name, x := range map[string]struct {
		lists [][]api.Sample
		want  []api.Sample
	}{
		"no lists":                        {nil, nil},
		"an empty list of lists":          {[][]api.Sample{}, nil},
		"empty lists":                     {[][]api.Sample{nil, {}, nil}, nil},
		"one sample":                      {[][]api.Sample{at(5, 6)}, at(5, 6)},
		"a value of 0":                    {[][]api.Sample{at(0, 0)}, at(0, 0)},
		"one list":                        {[][]api.Sample{at(1, 10, 2, 20, 9, 90)}, at(1, 10, 2, 20, 9, 90)},
		"one behind the other":            {[][]api.Sample{at(1, 1, 2, 2), at(3, 3, 4, 4)}, at(1, 1, 2, 2, 3, 3, 4, 4)},
		"one ahead of the other":          {[][]api.Sample{at(3, 3, 4, 4), at(1, 1, 2, 2)}, at(1, 1, 2, 2, 3, 3, 4, 4)},
		"by turns":                        {[][]api.Sample{at(1, 1, 3, 3), at(2, 2, 4, 4)}, at(1, 1, 2, 2, 3, 3, 4, 4)},
		"one within the other":            {[][]api.Sample{at(1, 1, 9, 9), at(4, 4, 5, 5)}, at(1, 1, 4, 4, 5, 5, 9, 9)},
		"with empty lists between":        {[][]api.Sample{nil, at(2, 2), {}, at(1, 1), nil}, at(1, 1, 2, 2)},
		"the last list's value":           {[][]api.Sample{at(1, 5), at(1, 9), at(1, 7)}, at(1, 7)},
		"the last list's, though less":    {[][]api.Sample{at(1, 5), at(1, -5)}, at(1, -5)},
		"the last list's, though 0":       {[][]api.Sample{at(1, 5), at(1, 0)}, at(1, 0)},
		"the last list's that has it":     {[][]api.Sample{at(1, 5), at(1, 6), at(2, 7), nil}, at(1, 6, 2, 7)},
		"the last list's at its end":      {[][]api.Sample{at(5, 1), at(1, 0, 2, 0, 3, 0, 4, 0, 5, 2)}, at(1, 0, 2, 0, 3, 0, 4, 0, 5, 2)},
		"the last list's at its head":     {[][]api.Sample{at(1, 0, 2, 0, 5, 1), at(5, 2, 6, 0)}, at(1, 0, 2, 0, 5, 2, 6, 0)},
		"all times twice":                 {[][]api.Sample{at(1, 1, 2, 2, 3, 3), at(1, 4, 2, 5, 3, 6)}, at(1, 4, 2, 5, 3, 6)},
		"a falling list":                  {[][]api.Sample{at(3, 3, 2, 2, 1, 1)}, at(1, 1, 2, 2, 3, 3)},
		"any list":                        {[][]api.Sample{at(5, 5, 1, 1, 4, 4, 2, 2, 3, 3)}, at(1, 1, 2, 2, 3, 3, 4, 4, 5, 5)},
		"a time twice, side by side":      {[][]api.Sample{at(1, 1, 5, 1, 5, 2, 6, 0)}, at(1, 1, 5, 2, 6, 0)},
		"a time thrice, side by side":     {[][]api.Sample{at(5, 1, 5, 3, 5, 2)}, at(5, 2)},
		"a time twice, apart":             {[][]api.Sample{at(5, 1, 3, 2, 5, 3)}, at(3, 2, 5, 3)},
		"a time twice, apart, the other":  {[][]api.Sample{at(5, 1, 8, 2, 5, 3)}, at(5, 3, 8, 2)},
		"a time at both ends":             {[][]api.Sample{at(2, 9, 1, 1, 3, 3, 2, 8)}, at(1, 1, 2, 8, 3, 3)},
		"within a list and in the next":   {[][]api.Sample{at(5, 1, 3, 2, 5, 3), at(5, 4)}, at(3, 2, 5, 4)},
		"in a list, and twice in another": {[][]api.Sample{at(5, 4), at(5, 1, 5, 3)}, at(5, 3)},
		"the least and the greatest int":  {[][]api.Sample{at(math.MaxInt, 1, 0, 2), at(math.MinInt, 3, math.MaxInt, 4)}, at(math.MinInt, 3, 0, 2, math.MaxInt, 4)},
		"times beyond MaxTime":            {[][]api.Sample{at(api.MaxTime+1, 1), at(-api.MaxTime-1, 2)}, at(-api.MaxTime-1, 2, api.MaxTime+1, 1)},
		"far apart, by the wrap":          {[][]api.Sample{at(math.MinInt, 1, 1, 2), at(math.MaxInt, 3, -1, 4)}, at(math.MinInt, 1, -1, 4, 1, 2, math.MaxInt, 3)},
		"values of all kinds":             {[][]api.Sample{at(1, math.MinInt), at(2, math.MaxInt), at(1, -1)}, at(1, -1, 2, math.MaxInt)},
	} {
		checkList(t, "P1801", name, Samples(x.lists), x.want)
	}
}

// TestP1801SamplesOfManyLists has one time in all lists, and one of each list's own, so that ties run through a deep heap.
func TestP1801SamplesOfManyLists(t *testing.T) {
	for n := range 72 {
		var lists [][]api.Sample
		var want []api.Sample
		for i := range n {
			own := api.Sample{T: 1 + (i*31)%71, V: i} // of no two i the same time
			lists = append(lists, []api.Sample{{T: 0, V: i}, own, {T: 1000, V: -i}})
			want = append(want, own)
		}
		slices.SortFunc(want, func(a, b api.Sample) int { return a.T - b.T })
		if n > 0 {
			want = slices.Concat(at(0, n-1), want, at(1000, 1-n))
		}
		checkList(t, "P1801", fmt.Sprint(n, " lists"), Samples(lists), want)
	}
}

// TestP1801SamplesOfLongLists would not end in time, if work grew by the square.
func TestP1801SamplesOfLongLists(t *testing.T) {
	const n = 400_000
	rising := row(0, 1, n, 7)
	falling := slices.Clone(rising)
	slices.Reverse(falling)
	checkList(t, "P1801", "rising", Samples([][]api.Sample{rising}), rising)
	checkList(t, "P1801", "falling", Samples([][]api.Sample{falling}), rising)
	checkList(t, "P1801", "both", Samples([][]api.Sample{row(0, 1, n, 1), falling}), rising)
	checkList(t, "P1801", "one time", Samples([][]api.Sample{row(5, 0, n, 1), row(5, 0, n, 2)}), at(5, 2))
	checkList(t, "P1801", "by turns", Samples([][]api.Sample{row(1, 2, n/2, 7), row(0, 2, n/2, 7)}), rising)
	var singles [][]api.Sample
	for _, s := range falling {
		singles = append(singles, []api.Sample{s})
	}
	checkList(t, "P1801", "each one a list", Samples(singles), rising)
}

func TestP1801Series(t *testing.T) {
	two := of("a", "x", "b", "y")
	for name, x := range map[string]struct{ lists, want []api.Series }{
		"no lists":               {},
		"one series":             {[]api.Series{one("x", 1, 2)}, []api.Series{one("x", 1, 2)}},
		"samples that fall":      {[]api.Series{one("x", 3, 3, 1, 1, 3, 4)}, []api.Series{one("x", 1, 1, 3, 4)}},
		"rising":                 {[]api.Series{one("x", 1, 1), one("y", 2, 2)}, []api.Series{one("x", 1, 1), one("y", 2, 2)}},
		"falling":                {[]api.Series{one("y", 2, 2), one("x", 1, 1)}, []api.Series{one("x", 1, 1), one("y", 2, 2)}},
		"twice, side by side":    {[]api.Series{one("x", 1, 1, 2, 2), one("x", 2, 3, 4, 4)}, []api.Series{one("x", 1, 1, 2, 3, 4, 4)}},
		"twice, apart":           {[]api.Series{one("y", 1, 1), one("x", 2, 2), one("y", 1, 3)}, []api.Series{one("x", 2, 2), one("y", 1, 3)}},
		"twice, the other way":   {[]api.Series{one("x", 1, 1), one("y", 2, 2), one("x", 1, 3)}, []api.Series{one("x", 1, 3), one("y", 2, 2)}},
		"without samples":        {[]api.Series{one("x"), {Labels: of("a", "y"), Samples: []api.Sample{}}}, nil},
		"without, then with":     {[]api.Series{one("x"), one("x", 1, 1)}, []api.Series{one("x", 1, 1)}},
		"with, then without":     {[]api.Series{one("x", 1, 1), one("x")}, []api.Series{one("x", 1, 1)}},
		"without, about others":  {[]api.Series{one("w"), one("x", 1, 1), one("y"), one("z", 2, 2), one("zz")}, []api.Series{one("x", 1, 1), one("z", 2, 2)}},
		"a beginning":            {[]api.Series{{Labels: two, Samples: at(1, 1)}, one("x", 1, 2)}, []api.Series{one("x", 1, 2), {Labels: two, Samples: at(1, 1)}}},
		"names ahead of values":  {[]api.Series{{Labels: of("b", "1"), Samples: at(1, 1)}, one("2", 1, 2)}, []api.Series{one("2", 1, 2), {Labels: of("b", "1"), Samples: at(1, 1)}}},
		"as bytes":               {[]api.Series{one("é", 1, 1), one("z", 2, 2), one("Z", 3, 3), one("\xff", 4, 4)}, []api.Series{one("Z", 3, 3), one("z", 2, 2), one("é", 1, 1), one("\xff", 4, 4)}},
		"times beyond MaxTime":   {[]api.Series{one("x", math.MaxInt, 1), one("x", math.MinInt, 2)}, []api.Series{one("x", math.MinInt, 2, math.MaxInt, 1)}},
		"the pair's edge":        {[]api.Series{{Labels: of("a", "bc"), Samples: at(1, 1)}, {Labels: of("ab", "c"), Samples: at(1, 2)}}, []api.Series{{Labels: of("a", "bc"), Samples: at(1, 1)}, {Labels: of("ab", "c"), Samples: at(1, 2)}}},
		"a text within a value":  {[]api.Series{{Labels: of("a", "x", "b", "y"), Samples: at(1, 1)}, {Labels: of("a", `x",b="y`), Samples: at(1, 2)}}, []api.Series{{Labels: of("a", "x", "b", "y"), Samples: at(1, 1)}, {Labels: of("a", `x",b="y`), Samples: at(1, 2)}}},
		"the same in other rows": {[]api.Series{{Labels: of("b", "1", "a", "1"), Samples: at(1, 1)}, {Labels: of("a", "1", "b", "1"), Samples: at(1, 2)}}, []api.Series{{Labels: of("a", "1", "b", "1"), Samples: at(1, 2)}, {Labels: of("b", "1", "a", "1"), Samples: at(1, 1)}}},
	} {
		check(t, "P1801", name, shown(Series([][]api.Series{x.lists})), shown(x.want))
		var singles [][]api.Series // the same, each series in a list of its own, with empty ones about it
		for _, s := range x.lists {
			singles = append(singles, nil, []api.Series{s}, []api.Series{})
		}
		check(t, "P1801", name+", in lists of their own", shown(Series(singles)), shown(x.want))
	}
}

// TestP1801SeriesAsTheyStand has labels that labels.Make does not take, or tells otherwise: they are left as they are.
func TestP1801SeriesAsTheyStand(t *testing.T) {
	rising := [][]api.Label{
		nil, of("", ""), of("", "", "", ""), of("", "x"), of("-", "1"), of("1", "1"), of("a", ""), of("a", "1", "a", "1"), of("a", "1", "a", "2"), of("a", "2"),
		of("b", "1", "a", "1"), of("b", strings.Repeat("v", api.MaxLabel+1)), of(strings.Repeat("c", api.MaxLabel+1), "1"), slices.Repeat(of("d", "1"), api.MaxLabels+1),
	}
	var first, second, want []api.Series
	for i, l := range rising {
		first = append(first, api.Series{Labels: l, Samples: at(1, i, 2, i)})
		second = append(second, api.Series{Labels: l, Samples: at(2, -i)})
		want = append(want, api.Series{Labels: l, Samples: at(1, i, 2, -i)})
	}
	slices.Reverse(second)
	check(t, "P1801", "labels that can't be", shown(Series([][]api.Series{first, second})), shown(want))
	check(t, "P1801", "no labels, and an empty list", shown(Series([][]api.Series{{{Samples: at(1, 1)}}, {{Labels: []api.Label{}, Samples: at(2, 2)}}})), shown([]api.Series{{Samples: at(1, 1, 2, 2)}}))
}

// TestP1801ListsInOrder has one series in three lists, whose samples have a time in common by twos and threes.
func TestP1801ListsInOrder(t *testing.T) {
	a := []api.Series{one("x", 1, 1, 2, 1, 3, 1), one("x", 3, 10)}
	b := []api.Series{one("y", 0, 0), one("x", 2, 2, 3, 2)}
	c := []api.Series{one("w", 0, 0), one("x", 3, 3, 4, 3)}
	for name, x := range map[string]struct {
		lists [][]api.Series
		want  []api.Sample
	}{
		"a b c": {[][]api.Series{a, b, c}, at(1, 1, 2, 2, 3, 3, 4, 3)},
		"a c b": {[][]api.Series{a, c, b}, at(1, 1, 2, 2, 3, 2, 4, 3)},
		"b a c": {[][]api.Series{b, a, c}, at(1, 1, 2, 1, 3, 3, 4, 3)},
		"b c a": {[][]api.Series{b, c, a}, at(1, 1, 2, 1, 3, 10, 4, 3)},
		"c a b": {[][]api.Series{c, a, b}, at(1, 1, 2, 2, 3, 2, 4, 3)},
		"c b a": {[][]api.Series{c, b, a}, at(1, 1, 2, 1, 3, 10, 4, 3)},
	} {
		got := Series(x.lists)
		check(t, "P1801", name+": how many", len(got), 3)
		for _, s := range got {
			if labels.Cmp(s.Labels, of("a", "x")) == 0 {
				checkList(t, "P1801", name, s.Samples, x.want)
			}
		}
	}
}

func TestP1801SeriesOfManyLists(t *testing.T) {
	const n = 3000
	var lists [][]api.Series
	var falling, want []api.Series
	for i := range n {
		s := one(fmt.Sprintf("%06d", i), i, i, i+1, -i)
		want = append(want, s)
		lists = append(lists, []api.Series{one("999999", 5, i), s})
	}
	falling = slices.Clone(want)
	slices.Reverse(falling)
	check(t, "P1801", "a falling list", shown(Series([][]api.Series{falling})), shown(want))
	want = append(want, one("999999", 5, n-1))
	check(t, "P1801", "a list each", shown(Series(lists)), shown(want))
}

func TestP1802Range(t *testing.T) {
	l := at(1, 1, 5, 5, 3, 3, 7, 7, 3, 4, 0, 0, -2, 2)
	ends := at(math.MinInt, 1, -1, 2, 0, 3, math.MaxInt-1, 4, math.MaxInt, 5)
	for name, x := range map[string]struct {
		l        []api.Sample
		from, to int
		want     []api.Sample
	}{
		"of none":               {nil, 0, 9, nil},
		"of an empty list":      {[]api.Sample{}, math.MinInt, math.MaxInt, nil},
		"in order":              {l, 3, 7, at(5, 5, 3, 3, 3, 4)},
		"from is within":        {l, 7, 8, at(7, 7)},
		"to is not":             {l, 6, 7, nil},
		"one more than to":      {l, 6, 8, at(7, 7)},
		"one more than from":    {l, 4, 6, at(5, 5)},
		"below 0":               {l, -2, 1, at(0, 0, -2, 2)},
		"above the least":       {l, -1, 1, at(0, 0)},
		"all":                   {l, -2, 8, l},
		"none, below":           {l, -9, -2, nil},
		"none, above":           {l, 8, 99, nil},
		"from is to":            {l, 3, 3, nil},
		"from above to":         {l, 7, 3, nil},
		"far above to":          {l, math.MaxInt, math.MinInt, nil},
		"all ints but one":      {ends, math.MinInt, math.MaxInt, at(math.MinInt, 1, -1, 2, 0, 3, math.MaxInt-1, 4)},
		"the upper half":        {ends, 0, math.MaxInt, at(0, 3, math.MaxInt-1, 4)},
		"the lower half":        {ends, math.MinInt, 0, at(math.MinInt, 1, -1, 2)},
		"the greatest is never": {ends, math.MaxInt, math.MaxInt, nil},
		"the least is never to": {ends, math.MinInt, math.MinInt, nil},
	} {
		checkList(t, "P1802", name, Range(x.l, x.from, x.to), x.want)
	}
}

func TestP1802Put(t *testing.T) {
	l := at(1, 1, 3, 3, 7, 7)
	for name, x := range map[string]struct {
		l    []api.Sample
		t, v int
		want []api.Sample
	}{
		"into none":              {nil, 5, 9, at(5, 9)},
		"into an empty list":     {[]api.Sample{}, 0, 0, at(0, 0)},
		"ahead of all":           {l, 0, 9, at(0, 9, 1, 1, 3, 3, 7, 7)},
		"between":                {l, 2, 9, at(1, 1, 2, 9, 3, 3, 7, 7)},
		"further between":        {l, 6, 9, at(1, 1, 3, 3, 6, 9, 7, 7)},
		"behind all":             {l, 8, 9, at(1, 1, 3, 3, 7, 7, 8, 9)},
		"instead of the first":   {l, 1, 9, at(1, 9, 3, 3, 7, 7)},
		"instead of another":     {l, 3, -9, at(1, 1, 3, -9, 7, 7)},
		"instead of the last":    {l, 7, 0, at(1, 1, 3, 3, 7, 0)},
		"the same":               {l, 3, 3, l},
		"instead of the only":    {at(4, 4), 4, 5, at(4, 5)},
		"the least int":          {l, math.MinInt, 9, at(math.MinInt, 9, 1, 1, 3, 3, 7, 7)},
		"the greatest int":       {l, math.MaxInt, 9, at(1, 1, 3, 3, 7, 7, math.MaxInt, 9)},
		"instead of the ends":    {at(math.MinInt, 1, math.MaxInt, 2), math.MinInt, 9, at(math.MinInt, 9, math.MaxInt, 2)},
		"falling":                {at(3, 3, 1, 1), 2, 9, at(1, 1, 2, 9, 3, 3)},
		"falling, instead":       {at(3, 3, 1, 1), 3, 9, at(1, 1, 3, 9)},
		"falling at the end":     {at(1, 1, 3, 3, 2, 2), 9, 9, at(1, 1, 2, 2, 3, 3, 9, 9)},
		"a time twice":           {at(1, 1, 1, 2, 3, 3), 2, 9, at(1, 2, 2, 9, 3, 3)},
		"a time twice, behind":   {at(1, 1, 3, 3, 3, 4), 0, 9, at(0, 9, 1, 1, 3, 4)},
		"a time twice, apart":    {at(3, 1, 1, 1, 3, 2), 2, 9, at(1, 1, 2, 9, 3, 2)},
		"instead of both":        {at(3, 1, 1, 1, 3, 2), 3, 9, at(1, 1, 3, 9)},
		"instead, side by side":  {at(3, 1, 3, 2), 3, 0, at(3, 0)},
		"not rising by the ends": {at(math.MaxInt, 1, math.MinInt, 2), 0, 9, at(math.MinInt, 2, 0, 9, math.MaxInt, 1)},
	} {
		checkList(t, "P1802", name, Put(x.l, api.Sample{T: x.t, V: x.v}), x.want)
	}
}

func TestP1803SameAgain(t *testing.T) {
	lists := [][]api.Sample{at(5, 1, 3, 2, 5, 3), at(4, 4)}
	series := [][]api.Series{{one("y", 1, 1), one("x", 2, 2)}, {one("y", 1, 3), one("z")}}
	for range 20 {
		checkList(t, "P1803", "Samples", Samples(lists), at(3, 2, 4, 4, 5, 3))
		check(t, "P1803", "Series", shown(Series(series)), shown([]api.Series{one("x", 2, 2), one("y", 1, 3)}))
		checkList(t, "P1803", "Range", Range(lists[0], 4, 6), at(5, 1, 5, 3))
		checkList(t, "P1803", "Put", Put(lists[1], api.Sample{T: 1, V: 1}), at(1, 1, 4, 4))
	}
}

// roomy is a list with spare room, in which something stands.
func roomy(l []api.Sample) []api.Sample {
	return append(slices.Clone(l), at(-77, 77, -77, 77, -77, 77)...)[:len(l)]
}

func TestP1803ArgumentsStay(t *testing.T) {
	for name, l := range map[string][]api.Sample{"rising": at(1, 1, 3, 3, 5, 5), "falling": at(5, 5, 3, 3, 1, 1), "a time twice": at(3, 3, 3, 4, 1, 1), "none": nil} {
		room := roomy(l)
		whole := slices.Clone(room[:len(l)+3])
		lists := [][]api.Sample{room, room, room[:len(l)/2]}
		own := append(of("b", "1", "a", "1"), of("z", "z")...)[:2]
		series := []api.Series{{Labels: own, Samples: room}, one("x", 1, 1), {Labels: own[:1], Samples: room}, one("spare", 7, 7)}[:3]
		was := shown(series[:4])
		for end := range 4 {
			Samples(lists[:end])
			Series([][]api.Series{series[:end], series})
			Range(room, end-1, 2*end)
			Put(room, api.Sample{T: end, V: 99})
			Put(room[:len(l)/2], api.Sample{T: 2 * end, V: 99})
		}
		checkList(t, "P1803", name+": the samples and their room", room[:len(l)+3], whole)
		for i, want := range []int{len(l), len(l), len(l) / 2} {
			check(t, "P1803", name+": the lists", len(lists[i]), want)
		}
		check(t, "P1803", name+": the series and their room", shown(series[:4]), was)
		checkList(t, "P1803", name+": the labels and their room", own[:3], of("b", "1", "a", "1", "z", "z"))
	}
}

// spoil turns all that a list has room for.
func spoil(l []api.Sample) {
	l = l[:cap(l)]
	for i := range l {
		l[i] = api.Sample{T: -55, V: -55}
	}
}

func TestP1803SamplesAreNewMemory(t *testing.T) {
	l := roomy(at(1, 1, 3, 3, 5, 5))
	for name, call := range map[string]func() []api.Sample{
		"Samples of one":     func() []api.Sample { return Samples([][]api.Sample{l}) },
		"Samples with none":  func() []api.Sample { return Samples([][]api.Sample{nil, l, {}}) },
		"Samples of two":     func() []api.Sample { return Samples([][]api.Sample{l, l[:1]}) },
		"Range of all":       func() []api.Sample { return Range(l, 0, 9) },
		"Range of some":      func() []api.Sample { return Range(l, 1, 4) },
		"Range of none":      func() []api.Sample { return Range(l, 8, 9) },
		"Put between":        func() []api.Sample { return Put(l, api.Sample{T: 2, V: 2}) },
		"Put behind":         func() []api.Sample { return Put(l, api.Sample{T: 9, V: 9}) },
		"Put instead":        func() []api.Sample { return Put(l, api.Sample{T: 5, V: 6}) },
		"Put into none":      func() []api.Sample { return Put(l[:0], api.Sample{T: 5, V: 6}) },
		"Samples of no room": func() []api.Sample { return Samples([][]api.Sample{l[:0]}) },
	} {
		first := call()
		want := slices.Clone(first)
		spoil(first)
		checkList(t, "P1803", name+": what was handed in", l[:6], at(1, 1, 3, 3, 5, 5, -77, 77, -77, 77, -77, 77))
		checkList(t, "P1803", name+": again", call(), want)
	}
}

func TestP1803SeriesAreNewMemory(t *testing.T) {
	shared := roomy(at(1, 1, 3, 3))
	own := append(of("a", "x", "b", "y"), of("z", "z")...)
	lists := [][]api.Series{{{Labels: own[:2], Samples: shared}, {Labels: own[:1], Samples: shared}, {Labels: own[:0], Samples: shared}}, {{Labels: own, Samples: shared[:1]}}}
	was := shown(slices.Concat(lists...))
	got := Series(lists)
	want := shown(got)
	check(t, "P1803", "how many", len(got), 4)
	for i, s := range got {
		others := slices.Delete(slices.Clone(got), i, i+1)
		before := shown(others)
		spoil(s.Samples)
		clear(s.Labels[:cap(s.Labels)])
		check(t, "P1803", "the other series of the answer", shown(others), before)
	}
	clear(got[:cap(got)])
	check(t, "P1803", "what was handed in", shown(slices.Concat(lists...)), was)
	checkList(t, "P1803", "the labels", own, of("a", "x", "b", "y", "z", "z"))
	checkList(t, "P1803", "the samples and their room", shared[:5], at(1, 1, 3, 3, -77, 77, -77, 77, -77, 77))
	check(t, "P1803", "again", shown(Series(lists)), want)
}

// TestP1803NothingIsKept turns what was handed in, once it was answered.
func TestP1803NothingIsKept(t *testing.T) {
	l := at(1, 1, 3, 3)
	own := of("a", "x")
	samples, series := Samples([][]api.Sample{l}), Series([][]api.Series{{{Labels: own, Samples: l}}})
	ranged, put := Range(l, 0, 9), Put(l, api.Sample{T: 2, V: 2})
	spoil(l)
	clear(own)
	checkList(t, "P1803", "Samples", samples, at(1, 1, 3, 3))
	check(t, "P1803", "Series", shown(series), shown([]api.Series{one("x", 1, 1, 3, 3)}))
	checkList(t, "P1803", "Range", ranged, at(1, 1, 3, 3))
	checkList(t, "P1803", "Put", put, at(1, 1, 2, 2, 3, 3))
}
