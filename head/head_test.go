package head

import (
	"fmt"
	"math"
	"math/rand"
	"slices"
	"strconv"
	"strings"
	"testing"

	"lysimeter/api"
)

func check[T comparable](t *testing.T, promise, name string, got, want T) {
	t.Helper()
	if got != want {
		t.Errorf("%s: %s: %#v, want %#v", promise, name, got, want)
	}
}

// of is labels out of names and values by turns.
func of(s ...string) []api.Label {
	var out []api.Label
	for pair := range slices.Chunk(s, 2) {
		out = append(out, api.Label{Name: pair[0], Value: pair[1]})
	}
	return out
}

// row is a row of the series whose one label, s, has the value.
func row(value string, t, v int) api.Row {
	return api.Row{Labels: of("s", value), Sample: api.Sample{T: t, V: v}}
}

// numbered is rows at the time t of n series, numbered from first on.
func numbered(first, n, t int) []api.Row {
	var out []api.Row
	for i := range n {
		out = append(out, row(strconv.Itoa(first+i), t, i))
	}
	return out
}

// full is a head of as many series as can be, each with a sample at the time 0.
func full(t *testing.T) *Head {
	t.Helper()
	h := New(10)
	for first := 0; first < 1000; first += 200 {
		written(t, h, numbered(first, 200, 0)...)
	}
	return h
}

// shown is series as a text.
func shown(l []api.Series) string {
	var out strings.Builder
	for _, s := range l {
		fmt.Fprintf(&out, "%q%v ", s.Labels, s.Samples)
	}
	return strings.TrimSuffix(out.String(), " ")
}

// written writes rows that can be.
func written(t *testing.T, h *Head, rows ...api.Row) {
	t.Helper()
	answers(t, "written", h, api.OK, rows...)
}

// answers checks what May and Write tell of the rows, and that May, and Write at an error, change nothing that is told.
func answers(t *testing.T, name string, h *Head, want api.Errno, rows ...api.Row) {
	t.Helper()
	was := shown(h.All())
	check(t, "P1301", name+": May", h.May(rows), want)
	check(t, "P1301", name+": All behind May", shown(h.All()), was)
	check(t, "P1301", name+": Write", h.Write(rows), want)
	if want != api.OK {
		check(t, "P1301", name+": All behind Write", shown(h.All()), was)
	}
}

// has checks all that a head tells of its samples together.
func has(t *testing.T, promise, name string, h *Head, want string) {
	t.Helper()
	all := h.All()
	check(t, promise, name+": All", shown(all), want)
	count := 0
	for _, s := range all {
		count += len(s.Samples)
		check(t, promise, name+": Samples", fmt.Sprint(h.Samples(s.Labels)), fmt.Sprint(s.Samples))
		newest, there := h.Newest(s.Labels)
		check(t, promise, name+": there", there, true)
		check(t, promise, name+": Newest", newest, s.Samples[len(s.Samples)-1].T)
	}
	check(t, promise, name+": Count", h.Count(), count)
}

func TestExample(t *testing.T) {
	h := New(10)
	answers(t, "one batch", h, api.ErrOld, row("a", 100, 1), row("a", 95, 2), row("a", 89, 3))
	has(t, "P1301", "one batch", h, "")
	written(t, h, row("a", 100, 1))
	written(t, h, row("a", 95, 2))
	answers(t, "one by one", h, api.ErrOld, row("a", 89, 3))
	has(t, "P1301", "one by one", h, `[{"s" "a"}][{95 2} {100 1}]`)
}

func TestP1301Batches(t *testing.T) {
	h := New(0)
	answers(t, "nil", h, api.ErrArg)
	check(t, "P1301", "no row", h.Write([]api.Row{}), api.ErrArg)
	answers(t, "one too many", h, api.ErrLong, slices.Repeat([]api.Row{row("a", 1, 1)}, 201)...)
	answers(t, "too many, and wrong ones", h, api.ErrLong, make([]api.Row, 201)...)
	answers(t, "very many", h, api.ErrLong, make([]api.Row, 100000)...)
	has(t, "P1301", "refused", h, "")
	written(t, h, slices.Repeat([]api.Row{row("a", 1, 1)}, 200)...)
	has(t, "P1301", "as many as can be", h, `[{"s" "a"}][{1 1}]`)
	answers(t, "none, of a head with samples", h, api.ErrArg)
}

func TestP1301Labels(t *testing.T) {
	for _, l := range [][]api.Label{nil, {}, of("", "v"), of("1", "v"), of("a-b", "v"), of("a", ""), of("a", "1", "a", "2"), of("a", "1", "b", ""),
		of(strings.Repeat("x", 65), "v"), of("a", strings.Repeat("x", 65)), slices.Repeat(of("a", "1"), 17)} {
		wrong := api.Row{Labels: l, Sample: api.Sample{T: 1}}
		h := New(5)
		answers(t, "labels alone", h, api.ErrLabel, wrong)
		answers(t, "labels behind a good row", h, api.ErrLabel, row("a", 1, 1), wrong)
		answers(t, "labels ahead of a good row", h, api.ErrLabel, wrong, row("a", 1, 1))
		wrong.Sample.T = math.MaxInt
		answers(t, "labels ahead of the time", h, api.ErrLabel, wrong)
		has(t, "P1301", "labels", h, "")
		answers(t, "labels ahead of too many series", full(t), api.ErrLabel, wrong)
	}
}

func TestP1301Times(t *testing.T) {
	for _, time := range []int{-1<<53 - 1, 1<<53 + 1, math.MinInt, math.MaxInt, math.MinInt + 1<<53, math.MaxInt - 1<<53} {
		h := New(5)
		answers(t, "a time alone", h, api.ErrTime, row("a", time, 1))
		answers(t, "a time behind a good row", h, api.ErrTime, row("a", 1, 1), row("a", time, 1))
		answers(t, "a time behind a good row of another series", h, api.ErrTime, row("b", 1, 1), row("a", time, 1))
		has(t, "P1301", "times", h, "")
		written(t, h, row("a", 1<<53, 1))
		answers(t, "a time ahead of what comes too late", h, api.ErrTime, row("a", time, 1))
		answers(t, "a time ahead of too many series", full(t), api.ErrTime, row("new", time, 1))
	}
	h := New(1 << 53)
	written(t, h, row("a", -1<<53, 1), row("b", 1<<53, 2), row("b", 0, 3), row("a", 0, 4), row("a", 1<<53, 5))
	has(t, "P1301", "the edges", h, `[{"s" "a"}][{-9007199254740992 1} {0 4} {9007199254740992 5}] [{"s" "b"}][{0 3} {9007199254740992 2}]`)
}

func TestP1301Values(t *testing.T) {
	h := New(0)
	written(t, h, row("a", -1, api.Least), row("a", 0, 0), row("a", 1, api.Most), row("a", 2, -1))
	has(t, "P1301", "any values", h, `[{"s" "a"}][{-1 -9223372036854775808} {0 0} {1 9223372036854775807} {2 -1}]`)
}

func TestP1301Old(t *testing.T) {
	h := New(10)
	written(t, h, row("a", 100, 1))
	answers(t, "below the window", h, api.ErrOld, row("a", 89, 2))
	answers(t, "far below the window", h, api.ErrOld, row("a", -1<<53, 2))
	written(t, h, row("a", 90, 2))
	written(t, h, row("b", -1000, 3))
	written(t, h, row("a", 95, 4))
	answers(t, "by the newest, not by the last that was written", h, api.ErrOld, row("a", 89, 5))
	answers(t, "by a newer one of the batch", h, api.ErrOld, row("a", 200, 5), row("a", 189, 6))
	answers(t, "behind an older one of the batch", h, api.ErrOld, row("a", 200, 5), row("a", 190, 6), row("a", 189, 7))
	answers(t, "by a newer one of the head, behind an older one of the batch", h, api.ErrOld, row("a", 90, 5), row("a", 89, 6))
	answers(t, "by a newer one of the head, behind another series", h, api.ErrOld, row("b", -1000, 5), row("a", 89, 6))
	has(t, "P1301", "old", h, `[{"s" "a"}][{90 2} {95 4} {100 1}] [{"s" "b"}][{-1000 3}]`)
	written(t, h, row("a", 111, 6), row("b", -1010, 7), row("a", 101, 8), row("c", 0, 9), row("c", -10, 10))
	has(t, "P1301", "not too old", h, `[{"s" "a"}][{90 2} {95 4} {100 1} {101 8} {111 6}] [{"s" "b"}][{-1010 7} {-1000 3}] [{"s" "c"}][{-10 10} {0 9}]`)
	answers(t, "by what was written since", h, api.ErrOld, row("a", 100, 11))
}

func TestP1301OldOfOneName(t *testing.T) {
	h := New(10)
	written(t, h, api.Row{Labels: of("b", "2", "a", "1"), Sample: api.Sample{T: 100, V: 1}})
	late := api.Row{Labels: of("a", "1", "b", "2"), Sample: api.Sample{T: 89, V: 2}}
	answers(t, "labels in another order", h, api.ErrOld, late)
	answers(t, "labels in another order, in one batch", New(10), api.ErrOld, api.Row{Labels: of("b", "2", "a", "1"), Sample: api.Sample{T: 100}}, late)
	late.Labels = of("a", "1")
	written(t, h, late)
	late.Labels = of("a", "1", "b", "2", "c", "3")
	written(t, h, late)
	has(t, "P1301", "names", h, `[{"a" "1"}][{89 2}] [{"a" "1"} {"b" "2"}][{100 1}] [{"a" "1"} {"b" "2"} {"c" "3"}][{89 2}]`)
}

func TestP1301NamesApart(t *testing.T) {
	h := New(0)
	alike := [][]api.Label{of("a", "1\",b=\"2"), of("a", "1", "b", "2"), of("a", `1\22,b=\222`), of("ab", "c"), of("a", "bc"), of("a", "\x00"), of("a", "\\00"), of("a", "\xff"), of("a", "\u00ff"), of("A", "1")}
	for i, l := range alike {
		written(t, h, api.Row{Labels: l, Sample: api.Sample{T: 100 - i, V: i}})
	}
	for i, l := range alike {
		check(t, "P1301", "labels that look alike", fmt.Sprint(h.Samples(l)), fmt.Sprint([]api.Sample{{T: 100 - i, V: i}}))
	}
	check(t, "P1302", "Count", h.Count(), len(alike))
}

func TestP1301Series(t *testing.T) {
	h := full(t)
	answers(t, "one series too many", h, api.ErrLong, row("new", 0, 0))
	answers(t, "one too many behind a good row", h, api.ErrLong, row("5", 7, 0), row("new", 0, 0))
	answers(t, "one too many ahead of a wrong row", h, api.ErrLong, row("new", 0, 0), api.Row{})
	answers(t, "one too many behind a wrong row", h, api.ErrTime, row("5", math.MaxInt, 0), row("new", 0, 0))
	answers(t, "one too many behind one that is too late", h, api.ErrOld, row("5", -11, 0), row("new", 0, 0))
	written(t, h, row("5", 1, 1))
	written(t, h, row("999", -10, 1), row("0", 3, 1))
	check(t, "P1302", "Count", h.Count(), 1003)
	check(t, "P1302", "series", len(h.All()), 1000)
}

func TestP1301SeriesOfOneBatch(t *testing.T) {
	h := New(10)
	for first := 0; first < 800; first += 200 {
		written(t, h, numbered(first, 200, 0)...)
	}
	written(t, h, numbered(800, 198, 0)...)
	answers(t, "the third new one", h, api.ErrLong, row("x", 1, 0), row("y", 1, 0), row("z", 1, 0))
	check(t, "P1301", "nothing is written", h.Count(), 998)
	answers(t, "a wrong row ahead of the third new one", h, api.ErrLabel, row("x", 1, 0), row("y", 1, 0), api.Row{}, row("z", 1, 0))
	answers(t, "a late row ahead of the third new one", h, api.ErrOld, row("x", 1, 0), row("y", 1, 0), row("x", -10, 0), row("z", 1, 0))
	written(t, h, row("x", 1, 0), row("x", 2, 0), row("y", 1, 0), row("x", 3, 0), row("y", 1, 0), row("0", 1, 0))
	check(t, "P1302", "Count", h.Count(), 998+3+1+1)
	answers(t, "no more", h, api.ErrLong, row("z", 1, 0))
}

func TestP1301SeriesThatAreGone(t *testing.T) {
	h := full(t)
	written(t, h, row("7", 5, 1))
	answers(t, "full", h, api.ErrLong, row("new", 0, 0))
	h.Cut(0)
	answers(t, "nothing was cut", h, api.ErrLong, row("new", 0, 0))
	h.Cut(1)
	has(t, "P1302", "one is left", h, `[{"s" "7"}][{5 1}]`)
	for first := 1000; first < 1800; first += 200 {
		written(t, h, numbered(first, 200, 0)...)
	}
	written(t, h, numbered(1800, 199, 0)...)
	answers(t, "full again", h, api.ErrLong, row("new", 0, 0))
	answers(t, "one that was cut is new", h, api.ErrLong, row("8", 9, 0))
	written(t, h, row("7", 6, 0))
}

func TestP1301LastOneHolds(t *testing.T) {
	h := New(10)
	written(t, h, row("a", 1, 1), row("a", 1, 2), row("a", 3, 3), row("a", 1, 4), row("a", 2, 5), row("a", 3, 6))
	has(t, "P1301", "of one batch", h, `[{"s" "a"}][{1 4} {2 5} {3 6}]`)
	written(t, h, row("a", 2, 7))
	written(t, h, row("a", 3, 8), row("b", 2, 9))
	written(t, h, api.Row{Labels: of("s", "a"), Sample: api.Sample{T: 1, V: 0}})
	has(t, "P1301", "of several", h, `[{"s" "a"}][{1 0} {2 7} {3 8}] [{"s" "b"}][{2 9}]`)
}

func TestP1302All(t *testing.T) {
	h := New(100)
	check(t, "P1302", "All of an empty head", len(h.All()), 0)
	check(t, "P1302", "Count of an empty head", h.Count(), 0)
	for i, l := range [][]api.Label{of("b", "1"), of("a", "2"), of("a", "1", "b", "1"), of("a", "1"), of("a", "10"), of("B", "1"), of("a", "1\"x"), of("a", "1!"), of("a", "1\xff"), of("aa", "0"), of("a", "1", "c", "0")} {
		written(t, h, api.Row{Labels: l, Sample: api.Sample{T: 5, V: i}}, api.Row{Labels: l, Sample: api.Sample{T: 3, V: -i}})
	}
	want := strings.Join([]string{
		`[{"B" "1"}][{3 -5} {5 5}]`, `[{"a" "1"}][{3 -3} {5 3}]`, `[{"a" "1"} {"b" "1"}][{3 -2} {5 2}]`, `[{"a" "1"} {"c" "0"}][{3 -10} {5 10}]`,
		`[{"a" "1!"}][{3 -7} {5 7}]`, `[{"a" "1\"x"}][{3 -6} {5 6}]`, `[{"a" "10"}][{3 -4} {5 4}]`, `[{"a" "1\xff"}][{3 -8} {5 8}]`,
		`[{"a" "2"}][{3 -1} {5 1}]`, `[{"aa" "0"}][{3 -9} {5 9}]`, `[{"b" "1"}][{3 0} {5 0}]`}, " ")
	for range 20 {
		has(t, "P1302", "by labels, not by texts", h, want)
	}
	for range 20 {
		check(t, "P1302", "Cut of nothing", shown(h.Cut(3)), "")
	}
	check(t, "P1302", "Cut of all", shown(h.Cut(6)), want)
}

func TestP1302SamplesRise(t *testing.T) {
	dice := rand.New(rand.NewSource(13))
	h := New(1 << 53)
	for _, time := range dice.Perm(1000) {
		written(t, h, row("a", time-500, time))
	}
	got := h.Samples(of("s", "a"))
	check(t, "P1302", "Count", h.Count(), 1000)
	check(t, "P1302", "samples", len(got), 1000)
	for i, x := range got {
		check(t, "P1302", "a sample", x, api.Sample{T: i - 500, V: i})
	}
}

func TestP1302OneSeries(t *testing.T) {
	h := New(10)
	written(t, h, api.Row{Labels: of("b", "2", "a", "1", "c", "3"), Sample: api.Sample{T: 7, V: 8}}, api.Row{Labels: of("a", "1", "c", "3", "b", "2"), Sample: api.Sample{T: 6, V: 9}})
	for _, l := range [][]api.Label{of("a", "1", "b", "2", "c", "3"), of("c", "3", "b", "2", "a", "1"), of("b", "2", "c", "3", "a", "1")} {
		check(t, "P1302", "Samples", fmt.Sprint(h.Samples(l)), "[{6 9} {7 8}]")
		newest, there := h.Newest(l)
		check(t, "P1302", "Newest", newest, 7)
		check(t, "P1302", "there", there, true)
	}
	has(t, "P1302", "as Make tells them", h, `[{"a" "1"} {"b" "2"} {"c" "3"}][{6 9} {7 8}]`)
	for _, l := range [][]api.Label{nil, {}, of("a", "1"), of("a", "1", "b", "2"), of("a", "1", "b", "2", "c", "4"), of("a", "1", "b", "2", "c", ""), of("a", "1", "b", "2", "c", "3", "c", "3"),
		of("", ""), of("a", ""), of("a", "1", "b", "2", "C", "3"), slices.Repeat(of("a", "1", "b", "2", "c", "3"), 6)} {
		check(t, "P1302", "Samples of none", len(h.Samples(l)), 0)
		newest, there := h.Newest(l)
		check(t, "P1302", "Newest of none", newest, 0)
		check(t, "P1302", "none is there", there, false)
	}
}

func TestP1302NewestIsNotTheLastWritten(t *testing.T) {
	h := New(10)
	written(t, h, row("a", -5, 1), row("a", -9, 2))
	newest, there := h.Newest(of("s", "a"))
	check(t, "P1302", "Newest", newest, -5)
	check(t, "P1302", "there", there, true)
	h.Cut(-5)
	newest, _ = h.Newest(of("s", "a"))
	check(t, "P1302", "Newest behind a Cut", newest, -5)
	h.Cut(-4)
	newest, there = h.Newest(of("s", "a"))
	check(t, "P1302", "Newest of none", newest, 0)
	check(t, "P1302", "none is there", there, false)
}

func TestP1302Cut(t *testing.T) {
	h := New(10)
	check(t, "P1302", "of an empty head", shown(h.Cut(math.MaxInt)), "")
	written(t, h, row("b", 1, 1), row("b", 2, 2), row("b", 3, 3), row("a", 2, 4), row("a", 5, 5), row("c", 9, 6))
	check(t, "P1302", "below all", shown(h.Cut(math.MinInt)), "")
	check(t, "P1302", "at the first", shown(h.Cut(1)), "")
	check(t, "P1302", "of two series", shown(h.Cut(3)), `[{"s" "a"}][{2 4}] [{"s" "b"}][{1 1} {2 2}]`)
	has(t, "P1302", "of two series", h, `[{"s" "a"}][{5 5}] [{"s" "b"}][{3 3}] [{"s" "c"}][{9 6}]`)
	check(t, "P1302", "again", shown(h.Cut(3)), "")
	check(t, "P1302", "lower", shown(h.Cut(-7)), "")
	check(t, "P1302", "a whole series", shown(h.Cut(4)), `[{"s" "b"}][{3 3}]`)
	has(t, "P1302", "a whole series", h, `[{"s" "a"}][{5 5}] [{"s" "c"}][{9 6}]`)
	check(t, "P1302", "one that is gone", len(h.Samples(of("s", "b"))), 0)
	written(t, h, row("b", -1000, 7), row("a", 4, 8))
	has(t, "P1302", "below what was cut", h, `[{"s" "a"}][{4 8} {5 5}] [{"s" "b"}][{-1000 7}] [{"s" "c"}][{9 6}]`)
	check(t, "P1302", "all", shown(h.Cut(math.MaxInt)), `[{"s" "a"}][{4 8} {5 5}] [{"s" "b"}][{-1000 7}] [{"s" "c"}][{9 6}]`)
	has(t, "P1302", "all", h, "")
	written(t, h, row("a", -1<<53, 9))
	has(t, "P1302", "anew", h, `[{"s" "a"}][{-9007199254740992 9}]`)
}

func TestP1303Window(t *testing.T) {
	for _, c := range []struct{ window, is int }{{math.MinInt, 0}, {-1, 0}, {0, 0}, {1, 1}, {10, 10}, {1<<53 - 1, 1<<53 - 1}, {1 << 53, 1 << 53}, {1<<53 + 1, 1 << 53}, {math.MaxInt, 1 << 53}} {
		h := New(c.window)
		has(t, "P1303", "an empty head", h, "")
		written(t, h, row("a", 1<<53, 1))
		answers(t, "below the window "+strconv.Itoa(c.window), h, api.ErrOld, row("a", 1<<53-c.is-1, 2))
		written(t, h, row("a", 1<<53-c.is, 3))
		low := New(c.window)
		written(t, low, row("a", -1<<53+c.is, 1), row("a", -1<<53, 2))
	}
}

func TestP1303HeadsApart(t *testing.T) {
	first, second := New(10), New(0)
	written(t, first, row("a", 100, 1))
	has(t, "P1303", "the second", second, "")
	written(t, second, row("a", 5, 2))
	has(t, "P1303", "the first", first, `[{"s" "a"}][{100 1}]`)
	written(t, first, row("a", 90, 3))
	first.Cut(math.MaxInt)
	has(t, "P1303", "the second", second, `[{"s" "a"}][{5 2}]`)
	answers(t, "the second's window", second, api.ErrOld, row("a", 4, 3))
}

func TestP1303ArgumentsStay(t *testing.T) {
	whole := []api.Row{{Labels: of("b", "2", "a", "1", "spare", "room")[:2], Sample: api.Sample{T: 5, V: 6}}, row("x", 9, 9), row("spare", 7, 7)}
	was := fmt.Sprintf("%v %v", whole, whole[0].Labels[:3])
	h := New(10)
	check(t, "P1303", "Write", h.Write(whole[:2]), api.OK)
	h.May(whole[:2])
	h.Samples(whole[0].Labels)
	h.Newest(whole[0].Labels)
	check(t, "P1303", "arguments", fmt.Sprintf("%v %v", whole, whole[0].Labels[:3]), was)
	whole[0].Labels[0].Value, whole[0].Labels[1].Name, whole[0].Sample.V = "turned", "turned", -1
	whole[1].Labels[0] = api.Label{Name: "turned", Value: "turned"}
	has(t, "P1303", "nothing is kept", h, `[{"a" "1"} {"b" "2"}][{5 6}] [{"s" "x"}][{9 9}]`)
}

// turn spoils all that was answered, and the spare room behind it.
func turn(l []api.Series) {
	for i := range l[:cap(l)] {
		s := &l[:cap(l)][i]
		for k := range s.Labels[:cap(s.Labels)] {
			s.Labels[:cap(s.Labels)][k] = api.Label{Name: "turned", Value: "turned"}
		}
		turnSamples(s.Samples)
	}
	clear(l[:cap(l)])
}

func turnSamples(l []api.Sample) {
	for i := range l[:cap(l)] {
		l[:cap(l)][i] = api.Sample{T: -1, V: -1}
	}
}

func TestP1303NewMemory(t *testing.T) {
	h := New(10)
	written(t, h, row("a", 1, 1), row("a", 2, 2), row("a", 3, 3), row("b", 1, 4), row("b", 4, 5))
	const want = `[{"s" "a"}][{1 1} {2 2} {3 3}] [{"s" "b"}][{1 4} {4 5}]`
	first, second := h.All(), h.All()
	turn(first)
	check(t, "P1303", "another answer of All", shown(second), want)
	has(t, "P1303", "All", h, want)
	turnSamples(h.Samples(of("s", "a")))
	has(t, "P1303", "Samples", h, want)
	turnSamples(second[0].Samples)
	check(t, "P1303", "lists of one answer", shown(second[1:]), `[{"s" "b"}][{1 4} {4 5}]`)
	third := h.All()
	turn(h.Cut(2))
	has(t, "P1303", "Cut", h, `[{"s" "a"}][{2 2} {3 3}] [{"s" "b"}][{4 5}]`)
	fourth := h.Cut(3)
	written(t, h, row("a", 2, 6), row("a", 1, 7), row("a", 3, 8))
	check(t, "P1303", "All's answer stays", shown(third), want)
	check(t, "P1303", "Cut's answer stays", shown(fourth), `[{"s" "a"}][{2 2}]`)
	samples := h.Samples(of("s", "a"))
	written(t, h, row("a", 2, 9))
	check(t, "P1303", "Samples' answer stays", fmt.Sprint(samples), "[{1 7} {2 6} {3 8}]")
}

func TestHeadThatNewDidNotMake(t *testing.T) {
	h := &Head{}
	has(t, "P1303", "empty", h, "")
	check(t, "P1303", "Cut", len(h.Cut(5)), 0)
	answers(t, "no row", h, api.ErrArg)
	written(t, h, row("a", 1, 1))
	answers(t, "no window", h, api.ErrOld, row("a", 0, 1))
	has(t, "P1303", "written", h, `[{"s" "a"}][{1 1}]`)
}
