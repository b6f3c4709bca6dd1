package resample

import (
	"math"
	"slices"
	"testing"

	"lysimeter/api"
)

func check[T comparable](t *testing.T, promise, name string, got, want T) {
	t.Helper()
	if got != want {
		t.Errorf("%s: %s: %#v, want %#v", promise, name, got, want)
	}
}

func checkList[T comparable](t *testing.T, promise, name string, got, want []T) {
	t.Helper()
	if !slices.Equal(got, want) {
		t.Errorf("%s: %s: %v, want %v", promise, name, got, want)
	}
}

// checkBoth holds what Points and Gaps tell against points and gaps that must come without an error.
func checkBoth(t *testing.T, name string, l []api.Sample, from, step, n int, points []int, gaps int) {
	t.Helper()
	got, errno := Points(l, from, step, n)
	check(t, "P2101", name+": the error of Points", errno, api.OK)
	checkList(t, "P2101", name+": Points", got, points)
	none, errno := Gaps(l, from, step, n)
	check(t, "P2101", name+": the error of Gaps", errno, api.OK)
	check(t, "P2101", name+": Gaps", none, gaps)
}

// checkRefused asks both for an error, beside which there is nothing.
func checkRefused(t *testing.T, name string, l []api.Sample, from, step, n int, want api.Errno) {
	t.Helper()
	points, errno := Points(l, from, step, n)
	check(t, "P2101", name+": Points", errno, want)
	checkList(t, "P2101", name+": Points beside the error", points, nil)
	gaps, errno := Gaps(l, from, step, n)
	check(t, "P2101", name+": Gaps", errno, want)
	check(t, "P2101", name+": Gaps beside the error", gaps, 0)
}

// at is samples out of times and values by turns.
func at(n ...int) []api.Sample {
	var out []api.Sample
	for pair := range slices.Chunk(n, 2) {
		out = append(out, api.Sample{T: pair[0], V: pair[1]})
	}
	return out
}

func TestExamples(t *testing.T) {
	checkBoth(t, "the example", at(0, 5, 25, 7), 0, 10, 4, []int{5, 5, 7, 7}, 2)
}

func TestP2101Points(t *testing.T) {
	for _, x := range []struct {
		name          string
		l             []api.Sample
		from, step, n int
		points        []int
		gaps          int
	}{
		{"one a step", at(0, 1, 10, 2, 20, 3), 0, 10, 3, []int{1, 2, 3}, 0},
		{"the last one of a step", at(0, 1, 3, 2, 9, 3, 10, 4, 19, 5), 0, 10, 2, []int{3, 5}, 0},
		{"the step's own time is in it", at(5, 1, 15, 2), 5, 10, 2, []int{1, 2}, 0},
		{"the next step's time is not in it", at(5, 1, 14, 2, 15, 3), 5, 10, 1, []int{2}, 0},
		{"samples ahead of all steps count for nothing", at(-1, 1, 3, 2), 0, 2, 3, []int{2, 2, 2}, 2},
		{"so do those behind them", at(3, 2, 6, 9), 0, 2, 3, []int{2, 2, 2}, 2},
		{"a gap has the point ahead of it", at(0, 1, 30, 4), 0, 10, 5, []int{1, 1, 1, 4, 4}, 3},
		{"gaps at the beginning have the first one", at(20, 8, 21, 9, 30, 1), 0, 10, 4, []int{9, 9, 9, 1}, 2},
		{"a value of 0 is one", at(10, 0, 20, 4), 0, 10, 4, []int{0, 0, 4, 4}, 2},
		{"the same values", at(0, 3, 10, 3), 0, 10, 3, []int{3, 3, 3}, 1},
		{"values at the ends", at(0, api.Least, 10, api.Most), 0, 10, 2, []int{api.Least, api.Most}, 0},
		{"steps below 0", at(-25, 5, -11, 6, -10, 7, -1, 8), -30, 10, 4, []int{5, 6, 8, 8}, 1},
		{"one point", at(7, 4), 7, 1, 1, []int{4}, 0},
		{"no points", at(7, 4), 7, 1, 0, nil, 0},
		{"no points of no samples", nil, 7, 1, 0, nil, 0},
		{"no samples", nil, 0, 10, 3, nil, 3},
		{"all samples ahead", at(-5, 1, -1, 2), 0, 10, 3, nil, 3},
		{"all samples behind", at(30, 1, 31, 2), 0, 10, 3, nil, 3},
		{"samples on both sides alone", at(-1, 1, 30, 2), 0, 10, 3, nil, 3},
	} {
		checkBoth(t, x.name, x.l, x.from, x.step, x.n, x.points, x.gaps)
	}
}

// TestP2101EndsOfInt has steps whose times are far above the greatest int.
func TestP2101EndsOfInt(t *testing.T) {
	ends := at(-api.MaxTime, 1, -api.MaxTime+1, 2, -1, 3, 0, 4, api.MaxTime-1, 5, api.MaxTime, 6)
	all := func(n, v int) []int { return slices.Repeat([]int{v}, n) }
	checkBoth(t, "from the least time", ends, -api.MaxTime, api.MaxTime, 4, []int{3, 5, 6, 6}, 1)
	checkBoth(t, "as many as there may be", ends, -api.MaxTime, api.MaxTime, api.MaxPoints, append([]int{3, 5}, all(api.MaxPoints-2, 6)...), api.MaxPoints-3)
	checkBoth(t, "from the greatest time", ends, api.MaxTime, api.MaxTime, api.MaxPoints, all(api.MaxPoints, 6), api.MaxPoints-1)
	checkBoth(t, "from the greatest time by the least step", ends, api.MaxTime, 1, 3, []int{6, 6, 6}, 2)
	checkBoth(t, "none from the greatest time on", ends[:5], api.MaxTime, api.MaxTime, api.MaxPoints, nil, api.MaxPoints)
	checkBoth(t, "from the least time by the least step", ends, -api.MaxTime, 1, 3, []int{1, 2, 2}, 1)
}

func TestP2101Refused(t *testing.T) {
	l := at(0, 5, 25, 7)
	for _, x := range []struct {
		name          string
		from, step, n int
	}{
		{"a step of 0", 0, 0, 1},
		{"a step below 0", 0, -1, 1},
		{"the least step", 0, math.MinInt, 1},
		{"a step above MaxTime", 0, api.MaxTime + 1, 1},
		{"the greatest step", 0, math.MaxInt, 1},
		{"a number below 0", 0, 1, -1},
		{"the least number", 0, 1, math.MinInt},
		{"a number above MaxPoints", 0, 1, api.MaxPoints + 1},
		{"the greatest number", 0, 1, math.MaxInt},
		{"from below -MaxTime", -api.MaxTime - 1, 1, 1},
		{"from the least int", math.MinInt, 1, 1},
		{"from above MaxTime", api.MaxTime + 1, 1, 1},
		{"from the greatest int", math.MaxInt, 1, 1},
		{"from above MaxTime, no points", api.MaxTime + 1, 1, 0},
	} {
		checkRefused(t, x.name, l, x.from, x.step, x.n, api.ErrArg)
		checkRefused(t, x.name+", no samples", nil, x.from, x.step, x.n, api.ErrArg)
		checkRefused(t, x.name+", ahead of bad times", at(1, 1, 1, 1), x.from, x.step, x.n, api.ErrArg)
	}
	for _, x := range []struct {
		name string
		l    []api.Sample
	}{
		{"a time twice", at(1, 5, 1, 5)},
		{"falling times", at(2, 5, 1, 5)},
		{"a time twice at last", at(1, 5, 2, 5, 2, 6)},
		{"a time twice behind all points", at(1, 5, 200_000, 5, 200_000, 6)},
		{"falling times ahead of all points", at(-9, 5, -10, 5, 1, 6)},
		{"a time below -MaxTime", at(-api.MaxTime-1, 5)},
		{"the least time", at(math.MinInt, 5, 0, 5)},
		{"a time above MaxTime", at(0, 5, api.MaxTime+1, 5)},
		{"the greatest time", at(math.MaxInt, 5)},
	} {
		checkRefused(t, x.name, x.l, 0, 10, 4, api.ErrTime)
		checkRefused(t, x.name+", no points", x.l, 0, 10, 0, api.ErrTime)
		checkRefused(t, x.name+", the greatest step", x.l, 0, api.MaxTime, api.MaxPoints, api.ErrTime)
	}
}

// TestP2101Bounds has the last numbers that are taken.
func TestP2101Bounds(t *testing.T) {
	l := at(-api.MaxTime, 1, api.MaxTime, 2)
	for _, from := range []int{-api.MaxTime, api.MaxTime} {
		for _, step := range []int{1, api.MaxTime} {
			for _, n := range []int{0, 1, api.MaxPoints} {
				points, errno := Points(l, from, step, n)
				check(t, "P2101", "the error of Points", errno, api.OK)
				check(t, "P2101", "as many points", len(points), n)
				_, errno = Gaps(l, from, step, n)
				check(t, "P2101", "the error of Gaps", errno, api.OK)
			}
		}
	}
}
