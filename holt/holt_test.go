package holt

import (
	"math"
	"slices"
	"testing"

	"lysimeter/api"
)

const (
	one     = api.One
	half    = api.One / 2
	quarter = api.One / 4
)

func check[T comparable](t *testing.T, promise, name string, got, want T) {
	t.Helper()
	if got != want {
		t.Errorf("%s: %s: %#v, want %#v", promise, name, got, want)
	}
}

func checkList[T comparable](t *testing.T, promise, name string, got, want []T) {
	t.Helper()
	if !slices.Equal(got, want) {
		t.Errorf("%s: %s: %v, want %v", promise, name, got, want)
	}
}

// checkParts holds what a state has against level, trend and season.
func checkParts(t *testing.T, promise, name string, s *State, level, trend int, season []int) {
	t.Helper()
	gotLevel, gotTrend, gotSeason := s.Parts()
	check(t, promise, name+": the level", gotLevel, level)
	check(t, promise, name+": the trend", gotTrend, trend)
	checkList(t, promise, name+": the season", gotSeason, season)
}

// started is the state of points that Start takes.
func started(t *testing.T, name string, l []int, m api.Model) *State {
	t.Helper()
	s, errno := Start(l, m)
	check(t, "P2301", name+": the error", errno, api.OK)
	if s == nil {
		t.Fatal("P2301: ", name, ": no state")
	}
	return s
}

// checkRefused asks Start and Cast of points for ErrArg, beside which there is nothing.
func checkRefused(t *testing.T, name string, l []int, m api.Model) {
	t.Helper()
	s, errno := Start(l, m)
	check(t, "P2301", name+": the error", errno, api.ErrArg)
	check(t, "P2301", name+": beside the error", s, nil)
	checkNoCast(t, name, l, m, 1)
}

// checkCast holds what Cast tells, of the points and of their state, against a point that must come without an error.
func checkCast(t *testing.T, name string, l []int, m api.Model, ahead, want int) {
	t.Helper()
	got, errno := Cast(l, m, ahead)
	check(t, "P2303", name+": the error", errno, api.OK)
	check(t, "P2303", name, got, want)
	got, errno = started(t, name, l, m).Cast(ahead)
	check(t, "P2303", name+": the error of the state's", errno, api.OK)
	check(t, "P2303", name+": the state's", got, want)
}

// checkNoCast asks Cast of points for ErrArg, beside which there is nothing.
func checkNoCast(t *testing.T, name string, l []int, m api.Model, ahead int) {
	t.Helper()
	got, errno := Cast(l, m, ahead)
	check(t, "P2303", name+": the error", errno, api.ErrArg)
	check(t, "P2303", name+": beside the error", got, 0)
}

// checkMiss holds what Miss tells against a sum that must come without an error.
func checkMiss(t *testing.T, name string, l []int, m api.Model, last, want int) {
	t.Helper()
	got, errno := Miss(l, m, last)
	check(t, "P2303", name+": the error", errno, api.OK)
	check(t, "P2303", name, got, want)
}

// checkNoMiss asks Miss for ErrArg, beside which there is nothing.
func checkNoMiss(t *testing.T, name string, l []int, m api.Model, last int) {
	t.Helper()
	got, errno := Miss(l, m, last)
	check(t, "P2303", name+": the error", errno, api.ErrArg)
	check(t, "P2303", name+": beside the error", got, 0)
}

// all is the model of that season with one weight for everything.
func all(season, weight int) api.Model {
	return api.Model{Season: season, Level: weight, Trend: weight, Seasonal: weight}
}

// line is n points of a straight line.
func line(n, from, step int) []int {
	out := make([]int, n)
	for i := range out {
		out[i] = from + i*step
	}
	return out
}

// wholes is fixed-point numbers of the whole ones.
func wholes(l ...int) []int {
	out := make([]int, len(l))
	for i, n := range l {
		out[i] = n * one
	}
	return out
}

// TestExamples has straight lines: without a season they are told at once, with one the state has to draw near first, since the first season's mean stands in that season's midst.
func TestExamples(t *testing.T) {
	for _, step := range []int{3 * one, -one / 8, 0, 1_000_003, -7} {
		for n := 2; n < 50; n++ {
			checkLine(t, 1, n, step)
		}
		for season := 2; season <= 6; season++ {
			checkLine(t, season, 1000, step)
		}
	}
	checkCast(t, "a straight line", wholes(1, 2, 3, 4), all(1, half), 1, 5*one)
}

// checkLine holds Cast by 1 against the next point of a straight line.
func checkLine(t *testing.T, season, n, step int) {
	t.Helper()
	got, errno := Cast(line(n, 5*one, step), all(season, half), 1)
	check(t, "example", "the error", errno, api.OK)
	want := 5*one + n*step
	if far := max(got-want, want-got); far > 5 {
		t.Errorf("example: season %d, %d points, step %d: %d, want %d", season, n, step, got, want)
	}
}

func TestP2301Check(t *testing.T) {
	for _, x := range []struct {
		name string
		m    api.Model
		want api.Errno
	}{
		{"the least", api.Model{Season: 1}, api.OK},
		{"the greatest", all(api.MaxPoints, one), api.OK},
		{"the middle", all(7, half), api.OK},
		{"no season", all(0, half), api.ErrArg},
		{"a season below 0", all(-1, half), api.ErrArg},
		{"the least season", all(math.MinInt, half), api.ErrArg},
		{"a season above MaxPoints", all(api.MaxPoints+1, half), api.ErrArg},
		{"the greatest season", all(math.MaxInt, half), api.ErrArg},
		{"a season whose double is 0", all(math.MinInt, 0), api.ErrArg},
		{"no model", api.Model{}, api.ErrArg},
	} {
		check(t, "P2301", x.name, Check(x.m), x.want)
	}
}

// TestP2301CheckWeights has each weight by itself at its ends.
func TestP2301CheckWeights(t *testing.T) {
	for _, x := range []struct {
		weight int
		want   api.Errno
	}{
		{0, api.OK}, {1, api.OK}, {one - 1, api.OK}, {one, api.OK},
		{-1, api.ErrArg}, {one + 1, api.ErrArg}, {math.MinInt, api.ErrArg}, {math.MaxInt, api.ErrArg}, {-one, api.ErrArg},
	} {
		for _, rest := range []int{0, half, one} {
			for _, m := range []api.Model{
				{Season: 2, Level: x.weight, Trend: rest, Seasonal: rest},
				{Season: 2, Level: rest, Trend: x.weight, Seasonal: rest},
				{Season: 2, Level: rest, Trend: rest, Seasonal: x.weight},
			} {
				check(t, "P2301", "a weight", Check(m), x.want)
				if x.want != api.OK {
					checkRefused(t, "a weight", line(9, 0, one), m)
					checkNoMiss(t, "a weight", line(9, 0, one), m, 1)
				}
			}
		}
	}
}

func TestP2301Refused(t *testing.T) {
	many := line(3*api.MaxPoints, 0, one)
	for _, x := range []struct {
		name string
		l    []int
		m    api.Model
	}{
		{"no points", nil, all(1, half)},
		{"an empty list", []int{}, all(1, half)},
		{"one point", many[:1], all(1, half)},
		{"one less than two seasons", many[:9], all(5, half)},
		{"points behind the list", many[:3], all(2, half)},
		{"one less than two of the greatest season", many[:2*api.MaxPoints-1], all(api.MaxPoints, half)},
		{"no season", many, all(0, half)},
		{"no season of no points", nil, all(0, half)},
		{"a season below 0", many, all(-1, half)},
		{"the least season", many, all(math.MinInt, half)},
		{"a season above MaxPoints", many, all(api.MaxPoints+1, half)},
		{"the greatest season", many, all(math.MaxInt, half)},
		{"a season whose double is below 0", many, all(1<<62, half)},
	} {
		checkRefused(t, x.name, x.l, x.m)
	}
	checkParts(t, "P2301", "two points", started(t, "two points", many[:2], all(1, half)), one, one, []int{0})
	checkCast(t, "two of the greatest season", many[:2*api.MaxPoints], all(api.MaxPoints, 0), 1, (4999+10_000+1-4999)*one-half+half)
}

// TestP2301Begin has weights of 0, with which the steps keep the trend and the season, and go along the line.
func TestP2301Begin(t *testing.T) {
	for _, x := range []struct {
		name         string
		l            []int
		season       int
		level, trend int
		parts        []int
	}{
		{"a season of one", wholes(3, 5), 1, 5 * one, 2 * one, []int{0}},
		{"a season of one, further points", wholes(3, 5, 100, 100), 1, 9 * one, 2 * one, []int{0}},
		{"a season of two", wholes(0, 4, 2, 6), 2, 4 * one, one, wholes(-2, 2)},
		{"a season of two, a point more", wholes(0, 4, 2, 6, 100), 2, 5 * one, one, wholes(-2, 2)},
		{"a season of three", wholes(1, 2, 6, 9, 9, 9), 3, 9 * one, 2 * one, wholes(-2, -1, 3)},
		{"falling", wholes(9, 9, 9, 1, 2, 6), 3, 3 * one, -2 * one, wholes(0, 0, 0)},
		{"below 0", wholes(-9, -7, -1, -3), 2, -2 * one, 3 * one, wholes(-1, 1)},
		{"a mean that is rounded down", []int{0, 1, 0, 1}, 2, 0, 0, []int{0, 1}},
		{"a mean below 0 that is rounded down", []int{0, -1, 0, -1}, 2, -1, 0, []int{1, 0}},
		{"a trend that is rounded down", []int{0, 0, 0, 1, 1, 0}, 3, 0, 0, []int{0, 0, 0}},
		{"a trend below 0 that is rounded down", []int{1, 1, 1, 0, 0, 0}, 3, -2, -1, []int{0, 0, 0}},
	} {
		s := started(t, x.name, x.l, api.Model{Season: x.season})
		checkParts(t, "P2301", x.name, s, x.level, x.trend, x.parts)
	}
}

// TestP2301Cut has sums and differences that are no ints.
func TestP2301Cut(t *testing.T) {
	most, least := api.Most, api.Least
	third := most / 3
	for _, x := range []struct {
		name         string
		l            []int
		season       int
		level, trend int
		parts        []int
	}{
		{"a sum", []int{most, most, 0, 0}, 2, -1, -(1 << 61), []int{1 << 62, 1 << 62}},
		{"a sum below 0", []int{least, least, 0, 0}, 2, 0, 1 << 61, []int{-(1 << 62), -(1 << 62)}},
		{"a sum in order", []int{most, 30, -30, third - 10, third - 10, third - 10}, 3, third - 10, 0, []int{most - third + 10, 40 - third, -20 - third}},
		{"the second sum in order", []int{third - 10, third - 10, third - 10, most, 30, -30}, 3, third - 10, 0, []int{0, 0, 0}},
		{"a sum in the other order", []int{-30, 30, most, third, third, third}, 3, third, 0, []int{-30 - third, 30 - third, most - third}},
		{"a difference", []int{least, most}, 1, -1, most, []int{0}},
		{"a difference down", []int{most, least}, 1, -1, least, []int{0}},
		{"a season's part", []int{least, most, 0, 0}, 2, -1, 0, []int{least + 1, most}},
		{"a season's part down", []int{most, least, most, least}, 2, -1, 0, []int{most, least + 1}},
	} {
		s := started(t, x.name, x.l, api.Model{Season: x.season})
		checkParts(t, "P2301", x.name, s, x.level, x.trend, x.parts)
	}
}

// TestP2301Steps has a state of points against one of two seasons and steps.
func TestP2301Steps(t *testing.T) {
	l := wholes(3, 1, 4, 1, 5, 9, 2, 6, 5, 3, 5, 8, 9, 7)
	for season := 1; season <= 5; season++ {
		m := api.Model{Season: season, Level: half, Trend: quarter, Seasonal: one / 8}
		s := started(t, "two seasons", l[:2*season], m)
		for n := 2 * season; n < len(l); n++ {
			level, trend, parts := started(t, "so many", l[:n], m).Parts()
			checkParts(t, "P2301", "by steps", s, level, trend, parts)
			s.Step(l[n])
		}
	}
}

// TestP2302Step begins with points that repeat: whatever the weights, the level is 4 behind them, the trend 0, and the season -2 and 2.
func TestP2302Step(t *testing.T) {
	for _, x := range []struct {
		name         string
		m            api.Model
		steps        []int
		level, trend int
		parts        []int
	}{
		{"no step", all(2, half), nil, 4 * one, 0, wholes(-2, 2)},
		{"no weights", all(2, 0), wholes(8, 100, -100), 4 * one, 0, wholes(-2, 2)},
		{"the level alone", api.Model{Level: one}, wholes(8), 10 * one, 0, wholes(-2, 2)},
		{"the level alone, the season's next", api.Model{Level: one}, wholes(8, 8), 6 * one, 0, wholes(-2, 2)},
		{"the level alone, the season again", api.Model{Level: one}, wholes(8, 8, 9), 11 * one, 0, wholes(-2, 2)},
		{"the level alone, by half", api.Model{Level: half}, wholes(8), 7 * one, 0, wholes(-2, 2)},
		{"the level alone, by a quarter", api.Model{Level: quarter}, wholes(8), 11 * half, 0, wholes(-2, 2)},
		{"the trend, where the level stays", api.Model{Trend: one}, wholes(8, 8), 4 * one, 0, wholes(-2, 2)},
		{"level and trend", api.Model{Level: one, Trend: one}, wholes(8), 10 * one, 6 * one, wholes(-2, 2)},
		{"level and trend, two steps", api.Model{Level: one, Trend: one}, wholes(8, 8), 6 * one, -4 * one, wholes(-2, 2)},
		{"the level, and the trend by a quarter", api.Model{Level: one, Trend: quarter}, wholes(8), 10 * one, 3 * half, wholes(-2, 2)},
		{"the level, and the trend by a quarter, two steps", api.Model{Level: one, Trend: quarter}, wholes(8, 8), 6 * one, one / 8, wholes(-2, 2)},
		{"the level by half, and the trend", api.Model{Level: half, Trend: one}, wholes(8), 7 * one, 3 * one, wholes(-2, 2)},
		{"the level by half, and the trend, two steps", api.Model{Level: half, Trend: one}, wholes(8, 8), 8 * one, one, wholes(-2, 2)},
		{"level and trend by half, two steps", api.Model{Level: half, Trend: half}, wholes(8, 8), 29 * quarter, 7 * one / 8, wholes(-2, 2)},
		{"the season alone", api.Model{Seasonal: one}, wholes(8), 4 * one, 0, wholes(4, 2)},
		{"the season alone, by a quarter", api.Model{Seasonal: quarter}, wholes(8), 4 * one, 0, []int{-half, 2 * one}},
		{"the season's next", api.Model{Seasonal: one}, wholes(8, 3), 4 * one, 0, wholes(4, -1)},
		{"the season again", api.Model{Seasonal: one}, wholes(8, 3, 9), 4 * one, 0, wholes(5, -1)},
		{"the season's next again", api.Model{Seasonal: one}, wholes(8, 3, 9, 9), 4 * one, 0, wholes(5, 5)},
		{"level and season", api.Model{Level: half, Seasonal: half}, wholes(8), 7 * one, 0, []int{-half, 2 * one}},
		{"all of them", all(2, one), wholes(8), 10 * one, 6 * one, wholes(-2, 2)},
		{"all of them, two steps", all(2, one), wholes(8, 8), 6 * one, -4 * one, wholes(-2, 2)},
		{"all by half", all(2, half), wholes(8), 7 * one, 3 * half, []int{-half, 2 * one}},
		{"all by half, two steps", all(2, half), wholes(8, 8), 29 * quarter, 7 * one / 8, []int{-half, 11 * one / 8}},
		{"all by half, three steps", all(2, half), wholes(8, 8, 8), 133 * one / 16, 31 * one / 32, []int{-13 * one / 32, 11 * one / 8}},
	} {
		x.m.Season = 2
		s := started(t, x.name, wholes(2, 6, 2, 6), x.m)
		for _, point := range x.steps {
			s.Step(point)
		}
		checkParts(t, "P2302", x.name, s, x.level, x.trend, x.parts)
	}
}

// TestP2302Rounding has products that are rounded down, each by itself, ahead of their sum.
func TestP2302Rounding(t *testing.T) {
	s := started(t, "a season of one", []int{0, 0}, all(1, half))
	s.Step(1)
	checkParts(t, "P2302", "up", s, 0, 0, []int{0})
	s.Step(-1)
	checkParts(t, "P2302", "down", s, -1, -1, []int{0})
	s.Step(0)
	checkParts(t, "P2302", "and back", s, -1, -1, []int{0})
	s.Step(7)
	checkParts(t, "P2302", "far up", s, 2, 0, []int{2})
	m := api.Model{Season: 1, Level: 1, Trend: 1, Seasonal: 1}
	s = started(t, "the least weights", wholes(1, 1), m)
	s.Step(5 * one)
	checkParts(t, "P2302", "the least weights", s, one+4, 0, []int{3})
}

// TestP2302Cut has differences and sums that are no ints.
func TestP2302Cut(t *testing.T) {
	most, least := api.Most, api.Least
	for _, x := range []struct {
		name         string
		m            api.Model
		l            []int
		level, trend int
		parts        []int
	}{
		{"level and trend", api.Model{}, []int{0, most, 0}, most, most, []int{0}},
		{"level and trend down", api.Model{}, []int{0, least, 0}, least, least, []int{0}},
		{"a step up", all(1, one), []int{least, least, most}, most, most, []int{0}},
		{"a step down", all(1, one), []int{most, most, least}, least, least, []int{0}},
		{"the season's part", api.Model{Seasonal: one}, []int{least, least, most}, least, 0, []int{most}},
		{"the season's part down", api.Model{Seasonal: one}, []int{most, most, least}, most, 0, []int{least}},
	} {
		x.m.Season = 1
		checkParts(t, "P2302", x.name, started(t, x.name, x.l, x.m), x.level, x.trend, x.parts)
	}
}

// TestP2302Cycle has a season of three, whose places are gone through again and again.
func TestP2302Cycle(t *testing.T) {
	s := started(t, "three", make([]int, 6), api.Model{Season: 3, Seasonal: one})
	want := make([]int, 3)
	for k := range 20 {
		s.Step(100 + k)
		want[k%3] = 100 + k
		checkParts(t, "P2302", "so many steps", s, 0, 0, want)
	}
}

func TestP2303Cast(t *testing.T) {
	repeating := wholes(2, 6, 2, 6) // level 4, trend 0, the season -2 and 2
	rising := wholes(0, 4, 2, 6)    // without weights: level 4, trend 1, the season -2 and 2
	none := api.Model{Season: 2}
	for _, x := range []struct {
		name        string
		l           []int
		m           api.Model
		ahead, want int
	}{
		{"by 1", repeating, all(2, half), 1, 2 * one},
		{"by 2", repeating, all(2, half), 2, 6 * one},
		{"by 3", repeating, all(2, half), 3, 2 * one},
		{"far ahead, even", repeating, all(2, half), api.MaxPoints, 6 * one},
		{"far ahead, odd", repeating, all(2, half), api.MaxPoints - 1, 2 * one},
		{"a point more, by 1", append(slices.Clone(repeating), 2*one), all(2, half), 1, 6 * one},
		{"a point more, by 2", append(slices.Clone(repeating), 2*one), all(2, half), 2, 2 * one},
		{"rising by 1", rising, none, 1, 3 * one},
		{"rising by 2", rising, none, 2, 8 * one},
		{"rising by 3", rising, none, 3, 5 * one},
		{"rising by 4", rising, none, 4, 10 * one},
		{"rising far", rising, none, api.MaxPoints, (4 + api.MaxPoints + 2) * one},
		{"a season of one", wholes(1, 3), all(1, half), 7, 17 * one},
		{"falling", wholes(3, 1), all(1, half), 7, -13 * one},
		{"by less than one", []int{0, 1}, all(1, 0), 3, 4},
		{"by less than one, down", []int{0, -1}, all(1, 0), 3, -4},
		{"a season of four by 2", wholes(1, 2, 3, 6, 1, 2, 3, 6, 1), all(4, 0), 2, 3 * one},
		{"a season of four by 4", wholes(1, 2, 3, 6, 1, 2, 3, 6, 1), all(4, 0), 4, one},
	} {
		checkCast(t, x.name, x.l, x.m, x.ahead, x.want)
	}
}

// TestP2303CastCut has products and sums that are no ints, each cut by itself.
func TestP2303CastCut(t *testing.T) {
	most, least := api.Most, api.Least
	for _, x := range []struct {
		name        string
		l           []int
		m           api.Model
		ahead, want int
	}{
		{"the product below it", []int{0, 1 << 60}, all(1, 0), 4, 5 << 60},
		{"the product", []int{least, 0}, all(1, 0), 2, most - 1}, // level -1, trend most
		{"the product down", []int{most, 5}, all(1, 0), 2, least + 5},
		{"the first sum", []int{1, most}, all(1, 0), 1, most},
		{"the first sum down", []int{-2, least}, all(1, 0), 1, least},
		// Level 2^61 and one, trend 2^60, the season -1 and 1.
		{"no sum", []int{0, 2 * one, 1 << 61, 1<<61 + 2*one}, all(2, 0), 5, 7 << 60},
		{"both sums", []int{0, 2 * one, 1 << 61, 1<<61 + 2*one}, all(2, 0), 6, most},
		{"the first sum, from which the season takes", []int{0, 2 * one, 1 << 61, 1<<61 + 2*one}, all(2, 0), 7, most - one},
		{"no sum down", []int{0, 2 * one, -1 << 61, -1<<61 + 2*one}, all(2, 0), 6, least + 2*one},
		{"the first sum down, to which the season adds", []int{0, 2 * one, -1 << 61, -1<<61 + 2*one}, all(2, 0), 8, least + one},
		// Level 2^62 - 2, trend 2^61 - 1, the season -2^62 and 2^62.
		{"not the second sum", []int{-1 << 62, 1 << 62, 1 << 62, 1 << 62}, all(2, 0), 1, 1<<61 - 3},
		{"the second sum", []int{-1 << 62, 1 << 62, 1 << 62, 1 << 62}, all(2, 0), 2, most},
		{"the second sum down", []int{1 << 62, -1 << 62, -1 << 62, -1 << 62}, all(2, 0), 2, least},
	} {
		checkCast(t, x.name, x.l, x.m, x.ahead, x.want)
	}
}

func TestP2303CastRefused(t *testing.T) {
	l, m := wholes(2, 6, 2, 6), all(2, half)
	s := started(t, "four points", l, m)
	for _, ahead := range []int{0, -1, math.MinInt, api.MaxPoints + 1, math.MaxInt} {
		got, errno := s.Cast(ahead)
		check(t, "P2303", "the error", errno, api.ErrArg)
		check(t, "P2303", "beside the error", got, 0)
		checkNoCast(t, "ahead that can't be", l, m, ahead)
		checkNoCast(t, "too few points", l[:3], m, ahead)
		checkNoCast(t, "no season", l, all(0, half), ahead)
	}
	checkParts(t, "P2303", "behind what is refused", s, 4*one, 0, wholes(-2, 2))
}

func TestP2303Miss(t *testing.T) {
	for _, x := range []struct {
		name       string
		l          []int
		m          api.Model
		last, want int
	}{
		{"as cast", wholes(2, 6, 2, 6, 2), all(2, half), 1, 0},
		{"above the cast", wholes(2, 6, 2, 6, 5), all(2, half), 1, 3 * one},
		{"below the cast", wholes(2, 6, 2, 6, -3), all(2, half), 1, 5 * one},
		{"two of them without weights", wholes(2, 6, 2, 6, -3, 7), all(2, 0), 2, 6 * one},
		{"the last one alone", wholes(2, 6, 2, 6, -3, 7), all(2, 0), 1, one},
		{"they do not make up for each other", wholes(2, 6, 2, 6, 3, 5, 1, 7), all(2, 0), 4, 4 * one},
		// Cast as 2, then as 12 by level 10, then as -2 of level 0.
		{"each is a step", wholes(2, 6, 2, 6, 8, 2, 1), api.Model{Season: 2, Level: one}, 3, (6 + 10 + 3) * one},
		{"each is a step, the last two", wholes(2, 6, 2, 6, 8, 2, 1), api.Model{Season: 2, Level: one}, 2, (10 + 3) * one},
		{"each is a step, the last one", wholes(2, 6, 2, 6, 8, 2, 1), api.Model{Season: 2, Level: one}, 1, 3 * one},
		{"a straight line", line(50, -7*one, 3*one), all(1, half), 48, 0},
		{"a season of one", wholes(1, 2, 5), all(1, half), 1, 2 * one},
		{"just as many points", wholes(1, 2, 5, 5), all(1, 0), 2, 3 * one},
	} {
		checkMiss(t, x.name, x.l, x.m, x.last, x.want)
	}
}

// TestP2303MissCut has distances and sums that are no ints.
func TestP2303MissCut(t *testing.T) {
	most, least := api.Most, api.Least
	for _, x := range []struct {
		name       string
		l          []int
		last, want int
	}{
		{"a distance up", []int{least, least, most}, 1, most},
		{"a distance down", []int{most, most, least}, 1, most},
		{"the greatest that is not cut", []int{0, 0, most}, 1, most},
		{"one less", []int{1, 1, most}, 1, most - 1},
		{"of the least", []int{0, 0, least}, 1, most},
		{"of the least, not cut", []int{-1, -1, least}, 1, most},
		{"of the least, one less", []int{-2, -2, least}, 1, most - 1},
		{"a sum", []int{0, 0, most, 1}, 2, most},
		{"a sum of more", []int{0, 0, most, least, most, least}, 4, most},
		{"the greatest sum that is not cut", []int{0, 0, most - 1, 1}, 2, most},
		{"a sum one less", []int{0, 0, most - 2, 1}, 2, most - 1},
	} {
		checkMiss(t, x.name, x.l, all(1, 0), x.last, x.want)
	}
}

// TestP2303MissBounds has the last numbers that are taken: last may be above MaxPoints.
func TestP2303MissBounds(t *testing.T) {
	many := line(4*api.MaxPoints, 0, one)
	checkMiss(t, "the least season", many, all(1, half), 4*api.MaxPoints-2, 0)
	checkNoMiss(t, "the least season, one too many", many, all(1, half), 4*api.MaxPoints-1)
	// The place j of a season is cast as j + 1 above the season's beginning but for a season, which is MaxPoints - 1 - j below the point.
	checkMiss(t, "the greatest season", many, all(api.MaxPoints, 0), 2*api.MaxPoints, api.MaxPoints*(api.MaxPoints-1)*one)
	checkNoMiss(t, "the greatest season, one too many", many, all(api.MaxPoints, 0), 2*api.MaxPoints+1)
	checkNoMiss(t, "a season above it", many, all(api.MaxPoints+1, 0), 1)
}

func TestP2303MissRefused(t *testing.T) {
	l := wholes(2, 6, 2, 6, 5)
	for _, x := range []struct {
		name string
		m    api.Model
		last int
	}{
		{"last of 0", all(2, half), 0},
		{"last below 0", all(2, half), -1},
		{"last far below 0", all(2, half), -9},
		{"the least last", all(2, half), math.MinInt},
		{"one too many", all(2, half), 2},
		{"one too many for a season of one", all(1, half), 4},
		{"one too many for half a season more", all(3, half), 1},
		{"all points", all(1, half), 5},
		{"the greatest last", all(2, half), math.MaxInt},
		{"the greatest last, with two seasons", all(2, half), math.MaxInt - 3},
		{"no season", all(0, half), 1},
		{"no season, no last", all(0, half), 0},
		{"a season below 0", all(-1, half), 1},
		{"a season below 0 with many", all(-1, half), 7},
		{"the least season", all(math.MinInt, half), 1},
		{"the least season, the greatest last", all(math.MinInt, half), math.MaxInt},
		{"a season above MaxPoints", all(api.MaxPoints+1, half), 1},
		{"the greatest season", all(math.MaxInt, half), 1},
		{"the greatest season and last", all(math.MaxInt, half), math.MaxInt},
		{"a weight below 0", all(2, -1), 1},
		{"a weight above One", all(2, one+1), 1},
	} {
		checkNoMiss(t, x.name, l, x.m, x.last)
		checkNoMiss(t, x.name+", no points", nil, x.m, x.last)
	}
	checkNoMiss(t, "no points", nil, all(1, half), 1)
	checkNoMiss(t, "an empty list", []int{}, all(1, half), 1)
	checkNoMiss(t, "points behind the list", l[:4], all(2, half), 1)
	checkMiss(t, "just enough", l, all(2, half), 1, 3*one)
}

// TestP2301NotMade has a state that Start did not make: it takes nothing, and casts nothing.
func TestP2301NotMade(t *testing.T) {
	s := new(State)
	s.Step(5)
	for _, ahead := range []int{0, 1, 7, math.MinInt, math.MaxInt} {
		got, errno := s.Cast(ahead)
		check(t, "P2303", "of no season: the error", errno, api.ErrArg)
		check(t, "P2303", "of no season", got, 0)
	}
	checkParts(t, "P2303", "of no season", s, 0, 0, nil)
}
