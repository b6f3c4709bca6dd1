package rollup

import (
	"maps"
	"math"
	"math/big"
	"math/rand"
	"slices"
	"testing"

	"lysimeter/api"
)

// cut is a number of any size, cut at the ends of int.
func cut(n *big.Int) int {
	switch {
	case n.Cmp(big.NewInt(math.MaxInt)) > 0:
		return math.MaxInt
	case n.Cmp(big.NewInt(math.MinInt)) < 0:
		return math.MinInt
	}
	return int(n.Int64())
}

// multiple is Floor in another way, of a width of 1 or more.
func multiple(t, width int) int {
	w := big.NewInt(int64(width))
	n := new(big.Int).Div(big.NewInt(int64(t)), w) // rounded down, of a w above 0
	return cut(n.Mul(n, w))
}

// total is the sum of numbers in order, each one cut, from 0.
func total(l []int) int {
	sum := 0
	for _, n := range l {
		sum = cut(new(big.Int).Add(big.NewInt(int64(sum)), big.NewInt(int64(n))))
	}
	return sum
}

// heaped is Buckets in another way: a map from each multiple to its values.
func heaped(l []api.Sample, width int) []api.Bucket {
	values := map[int][]int{}
	for _, s := range l {
		at := multiple(s.T, width)
		values[at] = append(values[at], s.V)
	}
	var out []api.Bucket
	for _, at := range slices.Sorted(maps.Keys(values)) {
		v := values[at]
		out = append(out, api.Bucket{T: at, Count: len(v), Sum: total(v), Min: slices.Min(v), Max: slices.Max(v), Last: v[len(v)-1]})
	}
	return out
}

// heapedAgain is Wider in another way: a map from each multiple to its buckets' numbers, field by field.
func heapedAgain(l []api.Bucket, width int) []api.Bucket {
	type fields struct{ counts, sums, mins, maxs, lasts []int }
	all := map[int]fields{}
	for _, b := range l {
		f := all[multiple(b.T, width)]
		all[multiple(b.T, width)] = fields{append(f.counts, b.Count), append(f.sums, b.Sum), append(f.mins, b.Min), append(f.maxs, b.Max), append(f.lasts, b.Last)}
	}
	var out []api.Bucket
	for _, at := range slices.Sorted(maps.Keys(all)) {
		f := all[at]
		out = append(out, api.Bucket{T: at, Count: total(f.counts), Sum: total(f.sums), Min: slices.Min(f.mins), Max: slices.Max(f.maxs), Last: f.lasts[len(f.lasts)-1]})
	}
	return out
}

// anyOf is one of the numbers.
func anyOf(dice *rand.Rand, l ...int) int {
	return l[dice.Intn(len(l))]
}

// anyTimes is up to 40 times that rise, near 0, far off or at the ends.
func anyTimes(dice *rand.Rand) []int {
	now := anyOf(dice, -api.MaxTime, -api.MaxTime+dice.Intn(50), api.MaxTime-1000, -100, 0, 7, dice.Intn(api.MaxTime))
	step := anyOf(dice, 1, 5, 60, 1<<20, 1<<50)
	var out []int
	for range dice.Intn(40) {
		if now > api.MaxTime {
			break
		}
		out = append(out, now)
		now += 1 + dice.Intn(step)
	}
	return out
}

// anyValue is a value, of which only great ones make sums that are cut.
func anyValue(dice *rand.Rand, great bool) int {
	if great {
		return anyOf(dice, api.Most, api.Least, api.Most-dice.Intn(9), api.Least+dice.Intn(9), dice.Intn(9)-4, int(dice.Uint64()))
	}
	return anyOf(dice, 0, dice.Intn(9)-4, dice.Intn(1<<50)-1<<49)
}

func anySamples(dice *rand.Rand, great bool) []api.Sample {
	var out []api.Sample
	for _, t := range anyTimes(dice) {
		out = append(out, api.Sample{T: t, V: anyValue(dice, great)})
	}
	return out
}

// anyBuckets is buckets that need not be those of any samples.
func anyBuckets(dice *rand.Rand) []api.Bucket {
	var out []api.Bucket
	for _, t := range anyTimes(dice) {
		out = append(out, api.Bucket{T: t, Count: 1 + dice.Intn(1<<50), Sum: anyValue(dice, true), Min: anyValue(dice, true), Max: anyValue(dice, true), Last: anyValue(dice, true)})
	}
	return out
}

func anyWidth(dice *rand.Rand) int {
	return anyOf(dice, 1, 2, 3, 10, 60, 1+dice.Intn(100), 1+dice.Intn(1<<30), 1+dice.Intn(api.MaxTime), 1<<40, api.MaxTime-1, api.MaxTime)
}

func TestP1901FloorAgainstModel(t *testing.T) {
	dice := rand.New(rand.NewSource(1901))
	edges := []int{math.MinInt, math.MinInt + 1, -1 << 62, -api.MaxTime, -1, 0, 1, api.MaxTime, 1 << 62, math.MaxInt - 1, math.MaxInt}
	for range 50_000 {
		n := anyOf(dice, anyOf(dice, edges...), int(dice.Uint64()), dice.Intn(200)-100)
		width := max(1, anyOf(dice, anyOf(dice, edges...), int(dice.Uint64()>>1), 1+dice.Intn(20)))
		got := Floor(n, width)
		if want := multiple(n, width); got != want {
			t.Fatalf("P1901: Floor(%d, %d): %d, want %d", n, width, got, want)
		}
		check(t, "P1901", "no width", Floor(n, -width), n)
	}
}

func TestP1901BucketsAgainstModel(t *testing.T) {
	dice := rand.New(rand.NewSource(19011))
	for range 20_000 {
		l, width := anySamples(dice, dice.Intn(2) == 0), anyWidth(dice)
		got, errno := Buckets(l, width)
		checkAll(t, "P1901", "any samples", got, errno, heaped(l, width))
		if t.Failed() {
			t.Fatal(l, width)
		}
	}
}

func TestP1902WiderAgainstModel(t *testing.T) {
	dice := rand.New(rand.NewSource(1902))
	for range 20_000 {
		l, width := anyBuckets(dice), anyWidth(dice)
		got, errno := Wider(l, width)
		checkAll(t, "P1902", "any buckets", got, errno, heapedAgain(l, width))
		if t.Failed() {
			t.Fatal(l, width)
		}
	}
}

// TestP1901SpoiltTimes has one time that can't be among others that can.
func TestP1901SpoiltTimes(t *testing.T) {
	dice := rand.New(rand.NewSource(19012))
	for range 5_000 {
		l, width := anySamples(dice, false), anyWidth(dice)
		b := anyBuckets(dice)
		if len(l) < 2 || len(b) < 2 {
			continue
		}
		i, j := 1+dice.Intn(len(l)-1), 1+dice.Intn(len(b)-1)
		l[i].T = anyOf(dice, l[i-1].T, l[i-1].T-1-dice.Intn(9), api.MaxTime+1+dice.Intn(9))
		b[j].T = anyOf(dice, b[j-1].T, b[j-1].T-1-dice.Intn(9), api.MaxTime+1+dice.Intn(9))
		b[dice.Intn(len(b))].Count = dice.Intn(3) - 1
		got, errno := Buckets(l, width)
		checkRefused(t, "P1901", "a spoilt time", got, errno, api.ErrTime)
		got, errno = Wider(b, width)
		checkRefused(t, "P1902", "a spoilt time", got, errno, api.ErrTime)
	}
}

// TestP1903WiderOfBuckets has sums that are not cut, and leaves out what P1903 leaves out.
func TestP1903WiderOfBuckets(t *testing.T) {
	dice := rand.New(rand.NewSource(1903))
	seen := 0
	for range 30_000 {
		l, width := anySamples(dice, false), anyWidth(dice)
		times := min(api.MaxTime/width, anyOf(dice, 1, 2, 3, 60, 1+dice.Intn(1000), api.MaxTime))
		narrow, errno := Buckets(l, width)
		check(t, "P1903", "the narrow ones' error", errno, api.OK)
		if len(narrow) > 0 && narrow[0].T < -api.MaxTime {
			_, errno := Wider(narrow, width*times)
			check(t, "P1902", "a T below the least time", errno, api.ErrTime)
			continue
		}
		got, errno := Wider(narrow, width*times)
		checkAll(t, "P1903", "any samples", got, errno, heaped(l, width*times))
		if t.Failed() {
			t.Fatal(l, width, times)
		}
		if len(got) > 1 && len(got) < len(narrow) {
			seen++
		}
	}
	if seen < 1000 {
		t.Error("P1903: hardly any of the samples stand in several buckets and come together: ", seen)
	}
}

// TestP1901LongLists would not end in time, if work grew by the square, or by the time that has no samples.
func TestP1901LongLists(t *testing.T) {
	const n = 1_000_000
	l := make([]api.Sample, n)
	for i := range l {
		l[i] = api.Sample{T: i, V: i % 7}
	}
	got, errno := Buckets(l, 1)
	check(t, "P1901", "the error", errno, api.OK)
	check(t, "P1901", "as many buckets as samples", len(got), n)
	got, errno = Wider(got, n)
	checkAll(t, "P1903", "all in one", got, errno, heaped(l, n))
	got, errno = Buckets(at(-api.MaxTime, 1, api.MaxTime, 2), 1)
	checkAll(t, "P1901", "far apart", got, errno, of(-api.MaxTime, 1, 1, 1, 1, 1, api.MaxTime, 1, 2, 2, 2, 2))
}

func TestP1903SameAgain(t *testing.T) {
	l := at(1, 5, 2, 3, 11, 1)
	for range 20 {
		narrow, errno := Buckets(l, 10)
		checkAll(t, "P1903", "Buckets", narrow, errno, of(0, 2, 8, 3, 5, 3, 10, 1, 1, 1, 1, 1))
		Buckets(at(2, 2, 1, 1), 10) // an error leaves nothing behind
		Wider(append(narrow, api.Bucket{}), 20)
		wide, errno := Wider(narrow, 20)
		checkAll(t, "P1903", "Wider", wide, errno, of(0, 3, 9, 1, 5, 1))
		check(t, "P1903", "Join", Join(narrow[0], narrow[1]), wide[0])
		check(t, "P1903", "Floor", Floor(-7, 5), -10)
	}
}

// spare is what stands in the room behind a list.
const spare = 3

func TestP1903ArgumentsStay(t *testing.T) {
	dice := rand.New(rand.NewSource(19031))
	for range 2_000 {
		samples, buckets, width := anySamples(dice, true), anyBuckets(dice), anyWidth(dice)
		if dice.Intn(4) == 0 { // refused
			slices.Reverse(samples)
			slices.Reverse(buckets)
		}
		samples = append(samples, at(1, 2, 3, 4, 5, 6)...)
		buckets = append(buckets, of(1, 1, 1, 1, 1, 1, 2, 2, 2, 2, 2, 2, 3, 3, 3, 3, 3, 3)...)
		wasSamples, wasBuckets := slices.Clone(samples), slices.Clone(buckets)
		Buckets(samples[:len(samples)-spare], width)
		Wider(buckets[:len(buckets)-spare], width)
		checkList(t, "P1903", "the samples and their room", samples, wasSamples)
		checkList(t, "P1903", "the buckets and their room", buckets, wasBuckets)
	}
}

// spoil turns all that a list has room for.
func spoil(l []api.Bucket) {
	l = l[:cap(l)]
	for i := range l {
		l[i] = api.Bucket{T: -55, Count: -55}
	}
}

func TestP1903NewMemory(t *testing.T) {
	b := of(0, 2, 8, 3, 5, 3, 10, 1, 1, 1, 1, 1, 20, 1, 2, 2, 2, 2, 77, 7, 7, 7, 7, 7)
	was := slices.Clone(b)
	for _, width := range []int{1, 10, 20, 100} {
		for n := range len(b) {
			first, _ := Wider(b[:n], width)
			want := slices.Clone(first)
			spoil(first)
			checkList(t, "P1903", "what was handed in", b, was)
			second, _ := Wider(b[:n], width)
			checkList(t, "P1903", "Wider again", second, want)
		}
	}
	l := at(1, 5, 2, 3, 11, 1)
	first, _ := Buckets(l, 10)
	second, _ := Buckets(l, 10)
	spoil(first)
	checkList(t, "P1903", "Buckets again", second, of(0, 2, 8, 3, 5, 3, 10, 1, 1, 1, 1, 1))
}

// TestP1903NothingIsKept turns what was handed in, once it was answered.
func TestP1903NothingIsKept(t *testing.T) {
	l, b := at(1, 5, 11, 1), of(0, 2, 8, 3, 5, 3, 10, 1, 1, 1, 1, 1)
	narrow, _ := Buckets(l, 10)
	wide, _ := Wider(b, 10)
	clear(l)
	clear(b)
	checkList(t, "P1903", "Buckets", narrow, of(0, 1, 5, 5, 5, 5, 10, 1, 1, 1, 1, 1))
	checkList(t, "P1903", "Wider", wide, of(0, 2, 8, 3, 5, 3, 10, 1, 1, 1, 1, 1))
}
