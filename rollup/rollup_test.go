package rollup

import (
	"math"
	"slices"
	"testing"

	"lysimeter/api"
)

func check[T comparable](t *testing.T, promise, name string, got, want T) {
	t.Helper()
	if got != want {
		t.Errorf("%s: %s: %#v, want %#v", promise, name, got, want)
	}
}

func checkList[T comparable](t *testing.T, promise, name string, got, want []T) {
	t.Helper()
	if !slices.Equal(got, want) {
		t.Errorf("%s: %s: %v, want %v", promise, name, got, want)
	}
}

// checkAll holds what Buckets or Wider tells against buckets that must come without an error.
func checkAll(t *testing.T, promise, name string, got []api.Bucket, errno api.Errno, want []api.Bucket) {
	t.Helper()
	check(t, promise, name+": the error", errno, api.OK)
	checkList(t, promise, name, got, want)
}

// checkRefused holds what Buckets or Wider tells against an error, beside which there is nothing.
func checkRefused(t *testing.T, promise, name string, got []api.Bucket, errno, want api.Errno) {
	t.Helper()
	check(t, promise, name, errno, want)
	checkList(t, promise, name+": beside the error", got, nil)
}

// at is samples out of times and values by turns.
func at(n ...int) []api.Sample {
	var out []api.Sample
	for pair := range slices.Chunk(n, 2) {
		out = append(out, api.Sample{T: pair[0], V: pair[1]})
	}
	return out
}

// of is buckets out of six numbers each, as they stand in one.
func of(n ...int) []api.Bucket {
	var out []api.Bucket
	for six := range slices.Chunk(n, 6) {
		out = append(out, api.Bucket{T: six[0], Count: six[1], Sum: six[2], Min: six[3], Max: six[4], Last: six[5]})
	}
	return out
}

// one is a bucket out of its six numbers.
func one(n ...int) api.Bucket {
	return of(n...)[0]
}

func TestExamples(t *testing.T) {
	got, errno := Buckets(at(1, 5, 2, 3, 11, 1), 10)
	checkAll(t, "P1901", "the example", got, errno, of(0, 2, 8, 3, 5, 3, 10, 1, 1, 1, 1, 1))
}

func TestP1901Floor(t *testing.T) {
	for _, x := range []struct{ t, width, want int }{
		{0, 5, 0}, {1, 5, 0}, {4, 5, 0}, {5, 5, 5}, {6, 5, 5}, {9, 5, 5}, {10, 5, 10},
		{-1, 5, -5}, {-4, 5, -5}, {-5, 5, -5}, {-6, 5, -10}, {-9, 5, -10}, {-10, 5, -10},
		{7, 1, 7}, {-7, 1, -7}, {0, 1, 0}, {math.MaxInt, 1, math.MaxInt}, {math.MinInt, 1, math.MinInt},
		{7, 0, 7}, {-7, 0, -7}, {7, -1, 7}, {-7, -5, -7}, {7, math.MinInt, 7}, {math.MinInt, 0, math.MinInt}, {math.MaxInt, -3, math.MaxInt}, {math.MinInt, -1, math.MinInt},
		{math.MaxInt, 2, math.MaxInt - 1}, {math.MaxInt, 10, math.MaxInt - 7}, {math.MaxInt, math.MaxInt, math.MaxInt}, {math.MaxInt - 1, math.MaxInt, 0}, {1, math.MaxInt, 0}, {0, math.MaxInt, 0},
		{-1, math.MaxInt, -math.MaxInt}, {-math.MaxInt, math.MaxInt, -math.MaxInt},
		{math.MinInt, 2, math.MinInt}, {math.MinInt, 1 << 62, math.MinInt}, {math.MinInt + 1, 2, math.MinInt}, {math.MinInt + 2, 2, math.MinInt + 2}, // multiples, the least int among them
		{math.MinInt, 3, math.MinInt}, {math.MinInt + 1, 3, math.MinInt}, {math.MinInt + 2, 3, math.MinInt + 2}, {math.MinInt + 4, 3, math.MinInt + 2}, // no multiple: cut
		{math.MinInt, math.MaxInt, math.MinInt}, {math.MinInt, math.MaxInt - 1, math.MinInt}, {math.MinInt, 1<<62 + 1, math.MinInt}, {-1<<62 - 2, 1<<62 + 1, math.MinInt},
		{api.MaxTime, api.MaxTime, api.MaxTime}, {api.MaxTime - 1, api.MaxTime, 0}, {-api.MaxTime, api.MaxTime, -api.MaxTime}, {-api.MaxTime, api.MaxTime - 1, -2*api.MaxTime + 2},
	} {
		if got := Floor(x.t, x.width); got != x.want {
			t.Errorf("P1901: Floor(%d, %d): %d, want %d", x.t, x.width, got, x.want)
		}
	}
}

func TestP1901Buckets(t *testing.T) {
	for name, x := range map[string]struct {
		l     []api.Sample
		width int
		want  []api.Bucket
	}{
		"no samples":                  {nil, 10, nil},
		"an empty list":               {[]api.Sample{}, 10, nil},
		"no samples, the least width": {nil, 1, nil},
		"no samples, the greatest":    {nil, api.MaxTime, nil},
		"one sample":                  {at(13, 7), 10, of(10, 1, 7, 7, 7, 7)},
		"one below 0":                 {at(13, -7), 10, of(10, 1, -7, -7, -7, -7)},
		"one of 0":                    {at(0, 0), 10, of(0, 1, 0, 0, 0, 0)},
		"width 1":                     {at(-1, 4, 0, 5, 1, 6), 1, of(-1, 1, 4, 4, 4, 4, 0, 1, 5, 5, 5, 5, 1, 1, 6, 6, 6, 6)},
		"both edges":                  {at(9, 1, 10, 2, 19, 4, 20, 8), 10, of(0, 1, 1, 1, 1, 1, 10, 2, 6, 2, 4, 4, 20, 1, 8, 8, 8, 8)},
		"both edges, below 0":         {at(-21, 1, -20, 2, -11, 4, -10, 8, -1, 16, 0, 32), 10, of(-30, 1, 1, 1, 1, 1, -20, 2, 6, 2, 4, 4, -10, 2, 24, 8, 16, 16, 0, 1, 32, 32, 32, 32)},
		"the last is the least":       {at(1, 5, 2, 9, 3, 2), 10, of(0, 3, 16, 2, 9, 2)},
		"the last is the greatest":    {at(1, 5, 2, 2, 3, 9), 10, of(0, 3, 16, 2, 9, 9)},
		"the last is neither":         {at(1, 2, 2, 9, 3, 5), 10, of(0, 3, 16, 2, 9, 5)},
		"all below 0":                 {at(1, -5, 2, -9, 3, -2), 10, of(0, 3, -16, -9, -2, -2)},
		"on both sides of 0":          {at(1, -5, 2, 9, 3, 0), 10, of(0, 3, 4, -5, 9, 0)},
		"a sum of 0":                  {at(1, -5, 2, 5), 10, of(0, 2, 0, -5, 5, 5)},
		"none in between":             {at(1, 1, 1001, 2), 10, of(0, 1, 1, 1, 1, 1, 1000, 1, 2, 2, 2, 2)},
		"a sum that is cut":           {at(1, api.Most, 2, 7, 3, -9), 10, of(0, 3, api.Most-9, -9, api.Most, -9)},
		"a sum that is not":           {at(1, -9, 2, 7, 3, api.Most), 10, of(0, 3, api.Most-2, -9, api.Most, api.Most)},
		"a sum that is cut below":     {at(1, api.Least, 2, -7, 3, 9), 10, of(0, 3, api.Least+9, api.Least, 9, 9)},
		"a sum that is cut twice":     {at(1, api.Most, 2, 1, 3, api.Least, 4, api.Least, 5, 4), 10, of(0, 5, api.Least+4, api.Least, api.Most, 4)},
		"a sum for each bucket":       {at(1, api.Most, 11, api.Most), 10, of(0, 1, api.Most, api.Most, api.Most, api.Most, 10, 1, api.Most, api.Most, api.Most, api.Most)},
		"the least and greatest time": {at(-api.MaxTime, 1, api.MaxTime, 2), 1, of(-api.MaxTime, 1, 1, 1, 1, 1, api.MaxTime, 1, 2, 2, 2, 2)},
		"with the greatest width":     {at(-api.MaxTime, 1, -api.MaxTime+1, 2, -1, 3, 0, 4, api.MaxTime-1, 5, api.MaxTime, 6), api.MaxTime, of(-api.MaxTime, 3, 6, 1, 3, 3, 0, 2, 9, 4, 5, 5, api.MaxTime, 1, 6, 6, 6, 6)},
		"a T below the least time":    {at(-api.MaxTime, 1, -api.MaxTime+1, 2), api.MaxTime - 1, of(-2*api.MaxTime+2, 1, 1, 1, 1, 1, -api.MaxTime+1, 1, 2, 2, 2, 2)},
	} {
		got, errno := Buckets(x.l, x.width)
		checkAll(t, "P1901", name, got, errno, x.want)
	}
}

// badWidths are those that no bucket has.
func badWidths() []int {
	return []int{0, -1, -10, -api.MaxTime, math.MinInt, api.MaxTime + 1, 2 * api.MaxTime, math.MaxInt}
}

// badTimes are rows of times that a list of samples or buckets can't have.
func badTimes() map[string][]int {
	return map[string][]int{
		"below the least":              {-api.MaxTime - 1},
		"far below":                    {math.MinInt},
		"above the greatest":           {api.MaxTime + 1},
		"far above":                    {math.MaxInt},
		"below the least, then others": {-api.MaxTime - 1, 0, 1},
		"above the greatest, at last":  {0, 1, api.MaxTime + 1},
		"a time twice":                 {2, 2},
		"a time twice, of 0":           {0, 0},
		"the greatest twice":           {api.MaxTime, api.MaxTime},
		"the least twice":              {-api.MaxTime, -api.MaxTime},
		"falling":                      {2, 1},
		"falling below 0":              {-1, -2},
		"falling from far":             {api.MaxTime, -api.MaxTime},
		"falling later":                {1, 5, 9, 8, 10},
		"falling by a bucket":          {35, 25, 40},
		"falling at last":              {1, 2, 3, 4, 5, 4},
		"a wrap above":                 {1, math.MaxInt, math.MinInt},
	}
}

func TestP1901Errors(t *testing.T) {
	for _, width := range badWidths() {
		for name, l := range map[string][]api.Sample{"none": nil, "one": at(1, 1), "falling": at(2, 0, 1, 0), "out of bounds": at(api.MaxTime+1, 0)} {
			got, errno := Buckets(l, width)
			checkRefused(t, "P1901", name, got, errno, api.ErrArg)
		}
	}
	for name, times := range badTimes() {
		var l []api.Sample
		for i, x := range times {
			l = append(l, api.Sample{T: x, V: i})
		}
		for _, width := range []int{1, 2, 10, 1 << 40, api.MaxTime} {
			got, errno := Buckets(l, width)
			checkRefused(t, "P1901", name, got, errno, api.ErrTime)
		}
	}
}

func TestP1902Join(t *testing.T) {
	for name, x := range map[string]struct{ a, b, want api.Bucket }{
		"two":                       {one(0, 2, 8, 3, 5, 3), one(10, 1, 1, 1, 1, 1), one(0, 3, 9, 1, 5, 1)},
		"the first has both ends":   {one(0, 2, 8, -3, 11, 3), one(10, 3, 12, 2, 5, 4), one(0, 5, 20, -3, 11, 4)},
		"the second has both ends":  {one(0, 2, 8, 3, 5, 3), one(10, 2, 0, -20, 20, 20), one(0, 4, 8, -20, 20, 20)},
		"the first's Least":         {one(0, 1, 1, 1, 1, 1), one(10, 1, 2, 2, 2, 2), one(0, 2, 3, 1, 2, 2)},
		"the same twice":            {one(7, 1, 4, 4, 4, 4), one(7, 1, 4, 4, 4, 4), one(7, 2, 8, 4, 4, 4)},
		"a T that falls":            {one(7, 1, 4, 4, 4, 4), one(3, 1, 5, 5, 5, 5), one(7, 2, 9, 4, 5, 5)},
		"a sum that is cut":         {one(0, 1, api.Most, 1, 1, 1), one(1, 1, 1, 1, 1, 1), one(0, 2, api.Most, 1, 1, 1)},
		"a sum that is cut below":   {one(0, 1, api.Least, 1, 1, 1), one(1, 1, -1, 1, 1, 1), one(0, 2, api.Least, 1, 1, 1)},
		"a sum from both ends":      {one(0, 1, api.Least, 1, 1, 1), one(1, 1, api.Most, 1, 1, 1), one(0, 2, -1, 1, 1, 1)},
		"the ends of all":           {one(math.MinInt, 1, 0, api.Least, api.Most, 0), one(math.MaxInt, 1, 0, 0, 0, api.Least), one(math.MinInt, 2, 0, api.Least, api.Most, api.Least)},
		"a Min above its Max":       {one(0, 1, 0, 9, 2, 0), one(1, 1, 0, 8, 3, 0), one(0, 2, 0, 8, 3, 0)},
		"none, then one":            {one(9, 0, 7, 7, 7, 7), one(3, 1, 2, 2, 2, 2), one(9, 1, 2, 2, 2, 2)},
		"one, then none":            {one(3, 1, 2, 2, 2, 2), one(9, 0, 7, 7, 7, 7), one(3, 1, 2, 2, 2, 2)},
		"nothing, then one":         {api.Bucket{}, one(3, 1, -2, -3, -1, -2), one(0, 1, -2, -3, -1, -2)},
		"one, then nothing":         {one(3, 1, -2, -3, -1, -2), api.Bucket{}, one(3, 1, -2, -3, -1, -2)},
		"none twice":                {one(9, 0, 7, 7, 7, 7), one(3, 0, 2, 4, 5, 6), one(9, 0, 2, 4, 5, 6)},
		"none, then below 0":        {one(9, 0, 7, 7, 7, 7), one(3, -1, 2, 2, 2, 2), one(9, -1, 2, 2, 2, 2)},
		"one, then below 0":         {one(9, 1, 7, 7, 7, 7), one(3, -3, 2, 2, 2, 2), one(9, -2, 9, 2, 7, 2)},
		"counts below 0":            {one(0, -3, 1, 1, 1, 1), one(1, 1, 2, 2, 2, 2), one(0, -2, 3, 1, 2, 2)},
		"counts that come to 0":     {one(0, -3, 1, 1, 1, 1), one(1, 3, 2, 2, 2, 2), one(0, 0, 3, 1, 2, 2)},
		"counts up to the greatest": {one(0, math.MaxInt-3, 1, 1, 1, 1), one(1, 3, 2, 2, 2, 2), one(0, math.MaxInt, 3, 1, 2, 2)},
	} {
		check(t, "P1902", name, Join(x.a, x.b), x.want)
	}
}

func TestP1902Wider(t *testing.T) {
	for name, x := range map[string]struct {
		l     []api.Bucket
		width int
		want  []api.Bucket
	}{
		"no buckets":               {nil, 10, nil},
		"an empty list":            {[]api.Bucket{}, 10, nil},
		"one":                      {of(3, 2, 8, 3, 5, 4), 10, of(0, 2, 8, 3, 5, 4)},
		"one at its T":             {of(10, 2, 8, 3, 5, 4), 10, of(10, 2, 8, 3, 5, 4)},
		"one below 0":              {of(-3, 2, 8, 3, 5, 4), 10, of(-10, 2, 8, 3, 5, 4)},
		"two in one":               {of(0, 2, 8, 3, 5, 3, 10, 1, 1, 1, 1, 1), 20, of(0, 3, 9, 1, 5, 1)},
		"two apart":                {of(0, 2, 8, 3, 5, 3, 10, 1, 1, 1, 1, 1), 10, of(0, 2, 8, 3, 5, 3, 10, 1, 1, 1, 1, 1)},
		"three in two":             {of(0, 1, 1, 1, 1, 1, 10, 2, 6, 2, 4, 4, 20, 1, 8, 8, 8, 8), 20, of(0, 3, 7, 1, 4, 4, 20, 1, 8, 8, 8, 8)},
		"three in two, the others": {of(-10, 1, 1, 1, 1, 1, 0, 2, 6, 2, 4, 4, 10, 1, 8, 8, 8, 8), 20, of(-20, 1, 1, 1, 1, 1, 0, 3, 14, 2, 8, 8)},
		"width 1":                  {of(-1, 1, 1, 1, 1, 1, 0, 2, 6, 2, 4, 4), 1, of(-1, 1, 1, 1, 1, 1, 0, 2, 6, 2, 4, 4)},
		"narrower ones stay":       {of(0, 3, 7, 1, 4, 4, 20, 1, 8, 8, 8, 8), 5, of(0, 3, 7, 1, 4, 4, 20, 1, 8, 8, 8, 8)},
		"none of a multiple":       {of(3, 1, 1, 1, 1, 1, 8, 2, 6, 2, 4, 4, 13, 1, 8, 8, 8, 8), 10, of(0, 3, 7, 1, 4, 4, 10, 1, 8, 8, 8, 8)},
		"sums that are cut":        {of(0, 1, api.Most, 1, 1, 1, 1, 1, 5, 1, 1, 1, 2, 1, -9, 1, 1, 1), 10, of(0, 3, api.Most-9, 1, 1, 1)},
		"sums that are not":        {of(0, 1, -9, 1, 1, 1, 1, 1, 5, 1, 1, 1, 2, 1, api.Most, 1, 1, 1), 10, of(0, 3, api.Most-4, 1, 1, 1)},
		"what no samples make":     {of(0, 1, 5, 9, -9, 77, 1, 1, 6, 10, -10, 88), 10, of(0, 2, 11, 9, -9, 88)},
		"the ends of time":         {of(-api.MaxTime, 1, 1, 1, 1, 1, api.MaxTime, 2, 6, 2, 4, 4), api.MaxTime, of(-api.MaxTime, 1, 1, 1, 1, 1, api.MaxTime, 2, 6, 2, 4, 4)},
		"a T below the least time": {of(-api.MaxTime, 1, 1, 1, 1, 1), api.MaxTime - 1, of(-2*api.MaxTime+2, 1, 1, 1, 1, 1)},
		"great counts":             {of(0, math.MaxInt-7, 1, 1, 1, 1, 1, 7, 1, 1, 1, 1), 10, of(0, math.MaxInt, 2, 1, 1, 1)},
	} {
		got, errno := Wider(x.l, x.width)
		checkAll(t, "P1902", name, got, errno, x.want)
	}
}

func TestP1902Errors(t *testing.T) {
	for _, width := range badWidths() {
		for name, l := range map[string][]api.Bucket{"none": nil, "one": of(1, 1, 1, 1, 1, 1), "falling": {{T: 2, Count: 1}, {T: 1, Count: 1}}, "without samples": {{T: 1}}} {
			got, errno := Wider(l, width)
			checkRefused(t, "P1902", name, got, errno, api.ErrArg)
		}
	}
	for name, times := range badTimes() {
		for _, count := range []int{1, 5, 0, -1} { // a time that can't be is told ahead of a count
			var l []api.Bucket
			for _, x := range times {
				l = append(l, api.Bucket{T: x, Count: count})
			}
			for _, width := range []int{1, 2, 10, 1 << 40, api.MaxTime} {
				got, errno := Wider(l, width)
				checkRefused(t, "P1902", name, got, errno, api.ErrTime)
			}
		}
	}
}

func TestP1902Counts(t *testing.T) {
	for _, count := range []int{0, -1, math.MinInt} {
		for place := range 6 {
			l := []api.Bucket{{T: -9, Count: 1}, {T: 1, Count: 1}, {T: 2, Count: 2}, {T: 3, Count: 3}, {T: 11, Count: 1}, {T: 21, Count: 1}}
			l[place].Count = count
			for _, width := range []int{1, 10, 1000} {
				got, errno := Wider(l, width)
				checkRefused(t, "P1902", "a count below 1", got, errno, api.ErrArg)
			}
			got, errno := Wider(append(l, api.Bucket{T: 21, Count: 1}), 10)
			checkRefused(t, "P1902", "a count below 1, then a time twice", got, errno, api.ErrTime)
		}
	}
}

func TestP1903Examples(t *testing.T) {
	l := at(-25, 4, -10, 1, -1, 9, 1, 5, 2, 3, 11, 1, 29, -6, 30, 2, 59, 8)
	for _, x := range []struct{ width, times int }{{1, 1}, {1, 10}, {10, 1}, {10, 2}, {10, 3}, {7, 5}, {30, 2}, {5, 1 << 40}, {1, api.MaxTime}} {
		want, errno := Buckets(l, x.width*x.times)
		check(t, "P1903", "the error", errno, api.OK)
		narrow, errno := Buckets(l, x.width)
		check(t, "P1903", "the narrow ones' error", errno, api.OK)
		got, errno := Wider(narrow, x.width*x.times)
		checkAll(t, "P1903", "wider ones", got, errno, want)
	}
}
