package season

import (
	"math"
	"slices"
	"testing"

	"lysimeter/api"
)

func check[T comparable](t *testing.T, promise, name string, got, want T) {
	t.Helper()
	if got != want {
		t.Errorf("%s: %s: %#v, want %#v", promise, name, got, want)
	}
}

func checkList[T comparable](t *testing.T, promise, name string, got, want []T) {
	t.Helper()
	if !slices.Equal(got, want) {
		t.Errorf("%s: %s: %v, want %v", promise, name, got, want)
	}
}

// checkCast holds what Cast tells against a point that must come without an error.
func checkCast(t *testing.T, name string, l []int, season, ahead, want int) {
	t.Helper()
	got, errno := Cast(l, season, ahead)
	check(t, "P2201", name+": the error", errno, api.OK)
	check(t, "P2201", name, got, want)
}

// checkMiss holds what Miss tells against a sum that must come without an error.
func checkMiss(t *testing.T, name string, l []int, season, last, want int) {
	t.Helper()
	got, errno := Miss(l, season, last)
	check(t, "P2202", name+": the error", errno, api.OK)
	check(t, "P2202", name, got, want)
}

// checkNoCast asks Cast for ErrArg, beside which there is nothing.
func checkNoCast(t *testing.T, name string, l []int, season, ahead int) {
	t.Helper()
	got, errno := Cast(l, season, ahead)
	check(t, "P2201", name+": the error", errno, api.ErrArg)
	check(t, "P2201", name+": beside the error", got, 0)
}

// checkNoMiss asks Miss for ErrArg, beside which there is nothing.
func checkNoMiss(t *testing.T, name string, l []int, season, last int) {
	t.Helper()
	got, errno := Miss(l, season, last)
	check(t, "P2202", name+": the error", errno, api.ErrArg)
	check(t, "P2202", name+": beside the error", got, 0)
}

// rising is n points of which each is another one: 7, 8, 9 and so on.
func rising(n int) []int {
	out := make([]int, n)
	for i := range out {
		out[i] = 7 + i
	}
	return out
}

func TestExamples(t *testing.T) {
	l := []int{1, 2, 3}
	checkCast(t, "by 1", l, 2, 1, 2)
	checkCast(t, "by 2", l, 2, 2, 3)
	checkCast(t, "by 3", l, 2, 3, 2)
}

func TestP2201Cast(t *testing.T) {
	for _, x := range []struct {
		name                string
		l                   []int
		season, ahead, want int
	}{
		{"one point", []int{5}, 1, 1, 5},
		{"one point, far ahead", []int{5}, 1, api.MaxPoints, 5},
		{"a season of one is the last point", []int{4, 5, 6}, 1, 2, 6},
		{"a season of all points begins with the first", []int{4, 5, 6}, 3, 1, 4},
		{"and goes on with the second", []int{4, 5, 6}, 3, 2, 5},
		{"up to the last", []int{4, 5, 6}, 3, 3, 6},
		{"and again", []int{4, 5, 6}, 3, 4, 4},
		{"and yet again", []int{4, 5, 6}, 3, 7, 4},
		{"points ahead of the season count for nothing", []int{9, 9, 9, 4, 5}, 2, 3, 4},
		{"ahead above all points", []int{9, 4, 5, 6}, 3, 11, 5},
		{"points below 0", []int{-1, -2, -3}, 2, 1, -2},
		{"the least point", []int{0, api.Least, api.Most}, 2, 1, api.Least},
		{"the greatest point", []int{0, api.Least, api.Most}, 2, 2, api.Most},
	} {
		checkCast(t, x.name, x.l, x.season, x.ahead, x.want)
	}
}

// TestP2201Bounds has the last numbers that are taken.
func TestP2201Bounds(t *testing.T) {
	many := rising(3 * api.MaxPoints)
	begin := 7 + 2*api.MaxPoints
	checkCast(t, "the greatest season", many, api.MaxPoints, 1, begin)
	checkCast(t, "the greatest season and ahead", many, api.MaxPoints, api.MaxPoints, begin+api.MaxPoints-1)
	checkCast(t, "the greatest ahead", many, api.MaxPoints-1, api.MaxPoints, begin+1)
	checkCast(t, "the greatest season of just as many points", many[:api.MaxPoints], api.MaxPoints, 2, 8)
	checkNoCast(t, "the greatest season of fewer points", many[:api.MaxPoints-1], api.MaxPoints, 1)
	checkNoCast(t, "a season above it", many, api.MaxPoints+1, 1)
	checkNoCast(t, "ahead above it", many, api.MaxPoints, api.MaxPoints+1)
}

func TestP2201Refused(t *testing.T) {
	l := []int{1, 2, 3}
	for _, x := range []struct {
		name          string
		season, ahead int
	}{
		{"a season of 0", 0, 1},
		{"a season below 0", -1, 1},
		{"the least season", math.MinInt, 1},
		{"fewer points than season", 4, 1},
		{"a season above MaxPoints", api.MaxPoints + 1, 1},
		{"the greatest season", math.MaxInt, 1},
		{"ahead of 0", 2, 0},
		{"ahead below 0", 2, -1},
		{"the least ahead", 2, math.MinInt},
		{"ahead above MaxPoints", 2, api.MaxPoints + 1},
		{"the greatest ahead", 2, math.MaxInt},
		{"both wrong", 0, 0},
		{"both the least", math.MinInt, math.MinInt},
		{"both the greatest", math.MaxInt, math.MaxInt},
	} {
		checkNoCast(t, x.name, l, x.season, x.ahead)
		checkNoCast(t, x.name+", no points", nil, x.season, x.ahead)
	}
	checkNoCast(t, "no points", nil, 1, 1)
	checkNoCast(t, "an empty list", []int{}, 1, 1)
	checkNoCast(t, "points behind the list", l[:1], 2, 1)
}

func TestP2202Miss(t *testing.T) {
	for _, x := range []struct {
		name               string
		l                  []int
		season, last, want int
	}{
		{"one point that rises", []int{3, 5}, 1, 1, 2},
		{"one point that falls", []int{5, 3}, 1, 1, 2},
		{"one point that stays", []int{5, 5}, 1, 1, 0},
		{"rising and falling do not make up for each other", []int{5, 3, 5, 3}, 1, 3, 6},
		{"the last ones alone", []int{0, 100, 3, 5}, 1, 1, 2},
		{"one more of them", []int{0, 100, 3, 5}, 1, 2, 99},
		{"as many as there may be", []int{0, 100, 3, 5}, 1, 3, 199},
		{"a season ago, not the point ahead", []int{1, 10, 2, 20}, 2, 2, 11},
		{"a season that holds", []int{1, 10, 1, 10, 1}, 2, 3, 0},
		{"more points than the season has", []int{1, 10, 2, 20, 4, 40}, 2, 4, 1 + 10 + 2 + 20},
		{"points below 0", []int{-1, -3, -2}, 2, 1, 1},
		{"points on both sides of 0", []int{-4, 5}, 1, 1, 9},
		{"a season of all points but one", []int{1, 2, 3, 9}, 3, 1, 8},
	} {
		checkMiss(t, x.name, x.l, x.season, x.last, x.want)
	}
}

// TestP2202Cut has distances and sums that are no ints.
func TestP2202Cut(t *testing.T) {
	for _, x := range []struct {
		name         string
		l            []int
		season, last int
		want         int
	}{
		{"a distance up", []int{api.Least, api.Most}, 1, 1, api.Most},
		{"a distance down", []int{api.Most, api.Least}, 1, 1, api.Most},
		{"the first one that is cut", []int{-1, api.Most}, 1, 1, api.Most},
		{"the greatest that is not", []int{0, api.Most}, 1, 1, api.Most},
		{"one less", []int{1, api.Most}, 1, 1, api.Most - 1},
		{"of the least", []int{api.Least, 0}, 1, 1, api.Most},
		{"of the least, not cut", []int{api.Least, -1}, 1, 1, api.Most},
		{"of the least, one less", []int{api.Least, -2}, 1, 1, api.Most - 1},
		{"of the least and itself", []int{api.Least, api.Least}, 1, 1, 0},
		{"a sum", []int{0, api.Most, api.Most - 1}, 1, 2, api.Most},
		{"a sum of more", []int{0, api.Most, 0, api.Most, 0, api.Most}, 1, 5, api.Most},
		{"the greatest sum that is not", []int{0, api.Most - 1, api.Most}, 1, 2, api.Most},
		{"a sum one less", []int{0, api.Most - 2, api.Most - 1}, 1, 2, api.Most - 1},
	} {
		checkMiss(t, x.name, x.l, x.season, x.last, x.want)
	}
}

// TestP2202Bounds has the last numbers that are taken: last may be above MaxPoints.
func TestP2202Bounds(t *testing.T) {
	many := rising(3 * api.MaxPoints)
	checkMiss(t, "the greatest season", many, api.MaxPoints, 2*api.MaxPoints, 2*api.MaxPoints*api.MaxPoints)
	checkMiss(t, "the least season", many, 1, 3*api.MaxPoints-1, 3*api.MaxPoints-1)
	checkMiss(t, "one point behind the greatest season", many[:api.MaxPoints+1], api.MaxPoints, 1, api.MaxPoints)
	checkNoMiss(t, "none behind it", many[:api.MaxPoints], api.MaxPoints, 1)
	checkNoMiss(t, "a season above it", many, api.MaxPoints+1, 1)
	checkNoMiss(t, "one too many", many, api.MaxPoints, 2*api.MaxPoints+1)
}

func TestP2202Refused(t *testing.T) {
	l := []int{1, 2, 4, 9}
	for _, x := range []struct {
		name         string
		season, last int
	}{
		{"a season of 0", 0, 1},
		{"a season below 0", -1, 1},
		{"the least season", math.MinInt, 1},
		{"a season of all points", 4, 1},
		{"fewer points than season", 5, 1},
		{"a season above MaxPoints", api.MaxPoints + 1, 1},
		{"the greatest season", math.MaxInt, 1},
		{"last of 0", 2, 0},
		{"last below 0", 2, -1},
		{"the least last", 2, math.MinInt},
		{"season and last one too many", 2, 3},
		{"season and last one too many, the other way", 3, 2},
		{"all points", 1, 4},
		{"the greatest last", 1, math.MaxInt},
		{"one less, its sum the greatest", 1, math.MaxInt - 1},
		{"both wrong", 0, 0},
		{"both the least", math.MinInt, math.MinInt},
		{"the least season, the greatest last", math.MinInt, math.MaxInt},
		{"both the greatest", math.MaxInt, math.MaxInt},
		{"a season below 0 with many", -1, 5},
	} {
		checkNoMiss(t, x.name, l, x.season, x.last)
		checkNoMiss(t, x.name+", no points", nil, x.season, x.last)
	}
	checkNoMiss(t, "no points", nil, 1, 1)
	checkNoMiss(t, "an empty list", []int{}, 1, 1)
	checkNoMiss(t, "points behind the list", l[:2], 1, 2)
}
