package block

import (
	"errors"
	"fmt"
	"math"
	"math/rand"
	"slices"
	"strconv"
	"strings"
	"testing"

	"lysimeter/api"
	"lysimeter/labels"
)

func check[T comparable](t *testing.T, promise, name string, got, want T) {
	t.Helper()
	if got != want {
		t.Errorf("%s: %s: %#v, want %#v", promise, name, got, want)
	}
}

func checkList[T comparable](t *testing.T, promise, name string, got, want []T) {
	t.Helper()
	if !slices.Equal(got, want) {
		t.Errorf("%s: %s: %#v, want %#v", promise, name, got, want)
	}
}

// of is labels out of names and values by turns.
func of(s ...string) []api.Label {
	var out []api.Label
	for pair := range slices.Chunk(s, 2) {
		out = append(out, api.Label{Name: pair[0], Value: pair[1]})
	}
	return out
}

// at is samples of the times, with values that all differ.
func at(times ...int) []api.Sample {
	var out []api.Sample
	for i, t := range times {
		out = append(out, api.Sample{T: t, V: 7 - 5*i})
	}
	return out
}

// one is the series of one label with samples at the times.
func one(value string, times ...int) api.Series {
	return api.Series{Labels: of("a", value), Samples: at(times...)}
}

// numbered is n series, by rising labels, of one sample each.
func numbered(n int) []api.Series {
	var out []api.Series
	for i := range n {
		out = append(out, one(fmt.Sprintf("%04d", i), i))
	}
	return out
}

// wide is n labels, by rising names.
func wide(n int) []api.Label {
	var out []api.Label
	for i := range n {
		out = append(out, api.Label{Name: "n" + strconv.Itoa(10+i), Value: "v"})
	}
	return out
}

// upTo is the times from 0 up to n.
func upTo(n int) []int {
	var out []int
	for i := range n {
		out = append(out, i)
	}
	return out
}

// shown is series as a text.
func shown(l []api.Series) string {
	var out strings.Builder
	for _, s := range l {
		fmt.Fprintf(&out, "%q%v ", s.Labels, s.Samples)
	}
	return out.String()
}

// oddSeries are series, by rising labels, whose labels, times and values have edges.
func oddSeries() []api.Series {
	long := strings.Repeat("v", api.MaxLabel)
	return []api.Series{
		{Labels: of("A", "1", "Z9", "1", "_", "1", "a", "1", "z", "1"), Samples: at(-3, 4)},
		{Labels: of("a", "\x00"), Samples: at(-api.MaxTime, api.MaxTime)},
		{Labels: of("a", "1"), Samples: at(0)},
		{Labels: of("a", "1", "b", "2"), Samples: at(1, 2, 3, 4, 5)},
		{Labels: of("a", `1",b="2`), Samples: at(upTo(api.MaxChunk)...)},
		{Labels: of("a", "2"), Samples: at(upTo(api.MaxChunk + 1)...)},
		{Labels: of("a", "\xc3"), Samples: at(upTo(2 * api.MaxChunk)...)},
		{Labels: of("a", "é"), Samples: at(upTo(500)...)},
		{Labels: of("a", "\xff"), Samples: []api.Sample{{T: 1, V: math.MaxInt}, {T: 2, V: math.MinInt}, {T: 9, V: 0}, {T: 10, V: -1}}},
		{Labels: of("ab", "1"), Samples: at(-7)},
		{Labels: of("b", "1"), Samples: at(-5, -4, 0, 1<<40)},
		{Labels: wide(api.MaxLabels), Samples: at(6)},
		{Labels: of(strings.Repeat("n", api.MaxLabel), long), Samples: at(1 << 50)},
	}
}

// badLabels are labels that no series has.
func badLabels() map[string][]api.Label {
	return map[string][]api.Label{
		"no labels":               nil,
		"an empty list":           {},
		"too many labels":         wide(api.MaxLabels + 1),
		"falling names":           of("b", "1", "a", "1"),
		"falling names, in part":  of("a", "1", "c", "1", "b", "1"),
		"small letters first":     of("a", "1", "Z", "1"),
		"a name twice":            of("a", "1", "a", "2"),
		"a label twice":           of("a", "1", "a", "1"),
		"an empty name":           of("", "1"),
		"a name that is too long": of(strings.Repeat("a", api.MaxLabel+1), "1"),
		"a name of a digit":       of("1", "1"),
		"a name with a dash":      of("a-b", "1"),
		"a name beyond bytes":     of("é", "1"),
		"an empty value":          of("a", ""),
		"a second empty value":    of("a", "1", "b", ""),
		"a value too long":        of("a", strings.Repeat("1", api.MaxLabel+1)),
	}
}

// badTimes are samples whose times can't be.
func badTimes() map[string][]api.Sample {
	return map[string][]api.Sample{
		"too early":              at(-api.MaxTime - 1),
		"too late":               at(api.MaxTime + 1),
		"the least int":          at(math.MinInt),
		"the greatest int":       at(math.MaxInt),
		"too early, then good":   at(-api.MaxTime-1, 0),
		"too late, behind good":  at(0, api.MaxTime+1),
		"too late, at the end":   at(0, api.MaxTime, api.MaxTime+1),
		"a time twice":           at(2, 2),
		"a time that falls":      at(2, 1),
		"a fall far behind":      at(append(upTo(300), 298)...),
		"twice far behind":       at(append(upTo(300), 299)...),
		"a fall behind a chunk":  at(append(upTo(api.MaxChunk), 0)...),
		"twice behind a chunk":   at(append(upTo(api.MaxChunk), api.MaxChunk-1)...),
		"a fall and a rise":      at(1, 5, 3, 9),
		"a fall to the least":    at(0, math.MinInt),
		"the least time, twice":  at(-api.MaxTime, -api.MaxTime),
		"from end to end around": at(math.MaxInt, math.MinInt),
	}
}

// refusedToPack checks that Check, Pack and Span all refuse the series.
func refusedToPack(t *testing.T, name string, l []api.Series, want api.Errno) {
	t.Helper()
	check(t, "P1601", name, Check(l), want)
	from, to := Span(l)
	check(t, "P1601", name+": Span", [2]int{from, to}, [2]int{})
	b, errno := Pack(l)
	check(t, "P1602", name+": Pack", errno, want)
	if b != nil {
		t.Errorf("P1602: %s: bytes beside an error", name)
	}
}

func TestP1601CheckTakes(t *testing.T) {
	for name, l := range map[string][]api.Series{
		"nil":                          nil,
		"none":                         {},
		"one":                          {one("1", 0)},
		"as many as can be":            numbered(api.MaxSeries),
		"as many labels as can be":     {{Labels: wide(api.MaxLabels), Samples: at(1)}},
		"a beginning, then the whole":  {{Labels: of("a", "1"), Samples: at(1)}, {Labels: of("a", "1", "b", "2"), Samples: at(1)}},
		"by the value, not the text":   {{Labels: of("a", "!"), Samples: at(1)}, {Labels: of("a", "\""), Samples: at(1)}, {Labels: of("a", "#"), Samples: at(1)}},
		"by the name ahead of values":  {{Labels: of("a", "9", "b", "1"), Samples: at(1)}, {Labels: of("b", "1"), Samples: at(1)}},
		"great letters first":          {{Labels: of("Z", "1"), Samples: at(1)}, {Labels: of("_", "1"), Samples: at(1)}, {Labels: of("a", "1"), Samples: at(1)}},
		"the least and greatest times": {one("1", -api.MaxTime, api.MaxTime)},
		"times next to each other":     {one("1", -1, 0, 1)},
		"times that fall in the next":  {one("1", 5, 6), one("2", 5, 6), one("3", 1)},
		"more samples than a chunk":    {one("1", upTo(1000)...)},
		"odd ones":                     oddSeries(),
	} {
		check(t, "P1601", name, Check(l), api.OK)
		_, errno := Pack(l)
		check(t, "P1602", name, errno, api.OK)
	}
}

func TestP1601CheckRefusesTooMany(t *testing.T) {
	for name, l := range map[string][]api.Series{
		"one too many":               numbered(api.MaxSeries + 1),
		"one too many, all the same": slices.Repeat([]api.Series{one("1", 1)}, api.MaxSeries+1),
		"one too many, none good":    make([]api.Series, api.MaxSeries+1),
		"one too many, bad times":    slices.Repeat([]api.Series{one("1", 2, 1)}, api.MaxSeries+1),
		"far too many":               make([]api.Series, 5*api.MaxSeries),
	} {
		refusedToPack(t, name, l, api.ErrLong)
	}
}

func TestP1601CheckRefusesLabels(t *testing.T) {
	for name, bad := range badLabels() {
		for what, samples := range map[string][]api.Sample{"good samples": at(1, 2), "no samples": nil, "bad times": at(2, 1)} {
			s := api.Series{Labels: bad, Samples: samples}
			many := numbered(api.MaxSeries)
			many[api.MaxSeries-1] = s
			for where, l := range map[string][]api.Series{
				"alone": {s}, "first": {s, one("1", 1)}, "last": {one("1", 1), s}, "twice": {s, s}, "ahead of bad ones": {s, one("1"), one("1", 2, 1)}, "the last of many": many,
			} {
				refusedToPack(t, name+", "+what+", "+where, l, api.ErrLabel)
			}
		}
	}
}

func TestP1601CheckRefusesArguments(t *testing.T) {
	whole := api.Series{Labels: of("a", "1", "b", "2"), Samples: at(1)}
	for name, l := range map[string][]api.Series{
		"no samples":                          {one("1")},
		"an empty list of samples":            {{Labels: of("a", "1"), Samples: []api.Sample{}}},
		"no samples in the last":              {one("1", 1), one("2")},
		"no samples in the first":             {one("1"), one("2", 1)},
		"the same labels":                     {one("1", 1), one("1", 1)},
		"the same labels, other times":        {one("1", 1), one("1", 2)},
		"falling labels":                      {one("2", 1), one("1", 1)},
		"falling labels, in part":             {one("1", 1), one("3", 1), one("2", 1)},
		"labels that come again":              {one("1", 1), one("2", 1), one("1", 1)},
		"the whole, then a beginning":         {whole, one("1", 1)},
		"falling by bytes":                    {one("2", 1), one("10", 1)},
		"falling by bytes above runes":        {one("\xff", 1), one("é", 1)},
		"falling names":                       {{Labels: of("b", "1"), Samples: at(1)}, {Labels: of("a", "2"), Samples: at(1)}},
		"small letters first":                 {{Labels: of("a", "1"), Samples: at(1)}, {Labels: of("Z", "1"), Samples: at(1)}},
		"the same labels and no sample":       {one("1", 1), one("1")},
		"the same labels and bad times":       {one("1", 1), one("1", 2, 1)},
		"falling labels and bad times":        {one("2", 1), one("1", 2, 1)},
		"no samples ahead of bad labels":      {one("1"), {}},
		"no samples ahead of bad times":       {one("1"), one("2", 2, 1)},
		"the same labels ahead of bad labels": {one("1", 1), one("1", 1), {}},
		"the last of many":                    append(numbered(api.MaxSeries-1), one("0998", 1)),
		"the last of many, without samples":   append(numbered(api.MaxSeries-1), one("1")),
	} {
		refusedToPack(t, name, l, api.ErrArg)
	}
}

func TestP1601CheckRefusesTimes(t *testing.T) {
	for name, bad := range badTimes() {
		s := api.Series{Labels: of("a", "1"), Samples: bad}
		for where, l := range map[string][]api.Series{
			"alone": {s}, "first": {s, one("2", 1)}, "last": {one("0", 1), s}, "twice": {s, s}, "ahead of bad labels": {s, {}}, "ahead of no samples": {s, one("2")},
			"ahead of falling labels": {s, one("0", 1)}, "the last of many": append(numbered(api.MaxSeries-1), s),
		} {
			refusedToPack(t, name+", "+where, l, api.ErrTime)
		}
	}
}

// plainCheck is Check by its words, one after the other.
func plainCheck(l []api.Series) api.Errno {
	if len(l) > 1000 {
		return api.ErrLong
	}
	for i := range l {
		text := labels.Text(l[i].Labels)
		parsed, _ := labels.Parse(text)
		if text == "" || labels.Cmp(parsed, l[i].Labels) != 0 {
			return api.ErrLabel
		}
		if i > 0 && labels.Cmp(l[i].Labels, l[i-1].Labels) != 1 {
			return api.ErrArg
		}
		if len(l[i].Samples) == 0 {
			return api.ErrArg
		}
		last := -(1 << 53) - 1
		for _, x := range l[i].Samples {
			if x.T <= last || x.T > 1<<53 {
				return api.ErrTime
			}
			last = x.T
		}
	}
	return api.OK
}

// plainSpan is Span by looking at all times.
func plainSpan(l []api.Series) (from, to int) {
	if plainCheck(l) != api.OK {
		return 0, 0
	}
	var times []int
	for _, s := range l {
		for _, x := range s.Samples {
			times = append(times, x.T)
		}
	}
	if len(times) == 0 {
		return 0, 0
	}
	return slices.Min(times), slices.Max(times) + 1
}

// anySeries is some series that can be.
func anySeries(dice *rand.Rand) []api.Series {
	var out []api.Series
	for _, value := range []string{"\x00", "1", "12", "\"", "é", "z", "\xff"} {
		if dice.Intn(3) > 0 {
			continue
		}
		s := api.Series{Labels: of("a", value)}
		if dice.Intn(3) == 0 {
			s.Labels = append(s.Labels, of("b", value)...)
		}
		t := dice.Intn(2000) - 1000
		for range 1 + dice.Intn(4)*dice.Intn(4)*dice.Intn(50) {
			s.Samples = append(s.Samples, api.Sample{T: t, V: dice.Intn(5) << dice.Intn(60)})
			t += 1 + dice.Intn(3)*dice.Intn(3)*dice.Intn(1<<dice.Intn(30))
		}
		out = append(out, s)
	}
	slices.SortFunc(out, func(x, y api.Series) int { return labels.Cmp(x.Labels, y.Labels) })
	return out
}

// turned is series of which something may have become wrong.
func turned(dice *rand.Rand, l []api.Series) []api.Series {
	if len(l) == 0 {
		return l
	}
	i := dice.Intn(len(l))
	k := dice.Intn(len(l[i].Samples))
	switch dice.Intn(7) {
	case 0:
		j := dice.Intn(len(l))
		l[i], l[j] = l[j], l[i]
	case 1:
		l = append(l, l[i])
	case 2:
		l[i].Samples[k].T = dice.Intn(2000) - 1000
	case 3:
		l[i].Samples[k].T = []int{math.MinInt, -api.MaxTime - 1, -api.MaxTime, api.MaxTime, api.MaxTime + 1, math.MaxInt}[dice.Intn(6)]
	case 4:
		l[i].Samples = nil
	case 5:
		l[i].Labels = [][]api.Label{nil, of("a", ""), of("b", "1", "a", "1"), of("", "1"), of("a", "1", "a", "1")}[dice.Intn(5)]
	}
	return l
}

func TestP1601CheckAndSpanOfAnySeries(t *testing.T) {
	dice := rand.New(rand.NewSource(1601))
	counts := map[api.Errno]int{}
	for range 20000 {
		l := anySeries(dice)
		for range dice.Intn(4) {
			if len(l) > 0 && slices.ContainsFunc(l, func(s api.Series) bool { return len(s.Samples) == 0 }) {
				break
			}
			l = turned(dice, l)
		}
		errno := Check(l)
		counts[errno]++
		check(t, "P1601", shown(l), errno, plainCheck(l))
		from, to := Span(l)
		plainFrom, plainTo := plainSpan(l)
		check(t, "P1601", "Span of "+shown(l), [2]int{from, to}, [2]int{plainFrom, plainTo})
	}
	for _, errno := range []api.Errno{api.OK, api.ErrLabel, api.ErrArg, api.ErrTime} {
		check(t, "P1601", fmt.Sprintf("%v has come often", errno), counts[errno] > 500, true)
	}
}

func TestP1601Span(t *testing.T) {
	for i, each := range []struct {
		l        []api.Series
		from, to int
	}{
		{nil, 0, 0},
		{[]api.Series{}, 0, 0},
		{[]api.Series{one("1", 0)}, 0, 1},
		{[]api.Series{one("1", -1)}, -1, 0},
		{[]api.Series{one("1", 5)}, 5, 6},
		{[]api.Series{one("1", -5)}, -5, -4},
		{[]api.Series{one("1", 5, 9)}, 5, 10},
		{[]api.Series{one("1", 5, 9, 20)}, 5, 21},
		{[]api.Series{one("1", -9, -5)}, -9, -4},
		{[]api.Series{one("1", 5, 9), one("2", 6, 8)}, 5, 10},
		{[]api.Series{one("1", 6, 8), one("2", 5, 9)}, 5, 10},
		{[]api.Series{one("1", 5, 6), one("2", 8, 9)}, 5, 10},
		{[]api.Series{one("1", 8, 9), one("2", 5, 6)}, 5, 10},
		{[]api.Series{one("1", 8, 9), one("2", 1, 100), one("3", 5, 6)}, 1, 101},
		{[]api.Series{one("1", api.MaxTime)}, api.MaxTime, api.MaxTime + 1},
		{[]api.Series{one("1", -api.MaxTime)}, -api.MaxTime, -api.MaxTime + 1},
		{[]api.Series{one("1", -api.MaxTime), one("2", api.MaxTime)}, -api.MaxTime, api.MaxTime + 1},
		{[]api.Series{one("1", upTo(1000)...)}, 0, 1000},
		{oddSeries(), -api.MaxTime, api.MaxTime + 1},
	} {
		from, to := Span(each.l)
		check(t, "P1601", "Span "+strconv.Itoa(i), [2]int{from, to}, [2]int{each.from, each.to})
	}
}

// TestFaultsAreErrors looks at what is thrown: the numbers alone are caught, whatever wraps them, and all else goes on.
func TestFaultsAreErrors(t *testing.T) {
	check(t, "ways", "the text", fault(api.ErrByte).Error(), "block: error 5")
	check(t, "ways", "bare", attempt(func() { panic(fault(api.ErrTime)) }), api.ErrTime)
	check(t, "ways", "wrapped", attempt(func() { panic(fmt.Errorf("behind: %w", fault(api.ErrArg))) }), api.ErrArg)
	check(t, "ways", "nothing", attempt(func() {}), api.OK)
	for _, other := range []any{"a text", 5, api.ErrByte, errors.New("another error")} {
		func() {
			defer func() { check(t, "ways", "what goes on", recover(), other) }()
			attempt(func() { panic(other) })
			t.Errorf("ways: %v was caught", other)
		}()
	}
}

// TestNeighboursCanBeLeft ranges over some of the series alone.
func TestNeighboursCanBeLeft(t *testing.T) {
	l := numbered(3)
	seen := 0
	for ahead, s := range neighbours(l) {
		if seen > 0 {
			check(t, "ways", "ahead", labels.Text(ahead.Labels), labels.Text(l[seen-1].Labels))
		} else {
			check(t, "ways", "ahead of the first", len(ahead.Labels), 0)
		}
		check(t, "ways", "the series", labels.Text(s.Labels), labels.Text(l[seen].Labels))
		seen++
		if seen == 2 {
			break
		}
	}
	b, _ := Pack(l)
	r := &reader{rest: b[len(mark)+len("\x00\x06"):]}
	for s := range r.series() {
		check(t, "ways", "the series read", labels.Text(s.Labels), labels.Text(l[0].Labels))
		break
	}
	check(t, "ways", "what is left", len(r.rest) > 40, true)
}
