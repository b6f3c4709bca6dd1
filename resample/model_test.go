package resample

import (
	"math/big"
	"math/rand"
	"slices"
	"testing"

	"lysimeter/api"
)

// plain is the points and the gaps in another way: each point looks through all samples, by numbers of any size.
func plain(l []api.Sample, from, step, n int) ([]int, int) {
	edge := func(i int) *big.Int {
		m := new(big.Int).Mul(big.NewInt(int64(i)), big.NewInt(int64(step)))
		return m.Add(m, big.NewInt(int64(from)))
	}
	points, has := make([]int, n), make([]bool, n)
	gaps := n
	for i := range n {
		for _, s := range l {
			if t := big.NewInt(int64(s.T)); t.Cmp(edge(i)) >= 0 && t.Cmp(edge(i+1)) < 0 {
				points[i], has[i] = s.V, true
			}
		}
		if has[i] {
			gaps--
		}
	}
	if gaps == n {
		return nil, gaps
	}
	for i := slices.Index(has, true) - 1; i >= 0; i-- {
		points[i], has[i] = points[i+1], true
	}
	for i := range points {
		if !has[i] {
			points[i] = points[i-1]
		}
	}
	return points, gaps
}

// anyOf is one of the numbers.
func anyOf(dice *rand.Rand, l ...int) int {
	return l[dice.Intn(len(l))]
}

// anySamples is up to 30 samples that rise by time, near 0, far off or at the ends.
func anySamples(dice *rand.Rand) []api.Sample {
	now := anyOf(dice, -api.MaxTime, -api.MaxTime+dice.Intn(50), api.MaxTime-200, -100, 0, 7, dice.Intn(api.MaxTime))
	step := anyOf(dice, 1, 5, 60, 1<<20, 1<<50)
	var out []api.Sample
	for range dice.Intn(30) {
		if now > api.MaxTime {
			break
		}
		out = append(out, api.Sample{T: now, V: anyOf(dice, 0, dice.Intn(9), int(dice.Uint64()))})
		now += 1 + dice.Intn(step)
	}
	return out
}

// anyFrom is a time, mostly one near the samples.
func anyFrom(dice *rand.Rand, l []api.Sample) int {
	if len(l) == 0 || dice.Intn(5) == 0 {
		return anyOf(dice, -api.MaxTime, api.MaxTime, 0, dice.Intn(200)-100)
	}
	t := l[dice.Intn(len(l))].T + anyOf(dice, 0, 0, 1, -1, dice.Intn(100)-50, dice.Intn(1<<40)-1<<39)
	return max(-api.MaxTime, min(t, api.MaxTime))
}

func anyStep(dice *rand.Rand) int {
	return anyOf(dice, 1, 2, 3, 10, 60, 1+dice.Intn(100), 1<<20, 1+dice.Intn(1<<40), 1+dice.Intn(api.MaxTime), api.MaxTime-1, api.MaxTime)
}

func TestP2101AgainstModel(t *testing.T) {
	dice := rand.New(rand.NewSource(2101))
	full, gappy := 0, 0
	for range 20_000 {
		l := anySamples(dice)
		from, step, n := anyFrom(dice, l), anyStep(dice), dice.Intn(20)
		points, gaps := plain(l, from, step, n)
		checkBoth(t, "any samples", l, from, step, n, points, gaps)
		if t.Failed() {
			t.Fatal(l, from, step, n)
		}
		if gaps == 0 && n > 1 {
			full++
		}
		if gaps > 0 && gaps < n-1 {
			gappy++
		}
	}
	if full < 100 || gappy < 1000 {
		t.Error("P2101: hardly any points have samples: ", full, gappy)
	}
}

// TestP2101SpoiltTimes has one time that can't be among others that can.
func TestP2101SpoiltTimes(t *testing.T) {
	dice := rand.New(rand.NewSource(21011))
	for range 5_000 {
		l := anySamples(dice)
		if len(l) < 2 {
			continue
		}
		from, step, n := anyFrom(dice, l), anyStep(dice), dice.Intn(20)
		i := 1 + dice.Intn(len(l)-1)
		l[i].T = anyOf(dice, l[i-1].T, l[i-1].T-1-dice.Intn(9), api.MaxTime+1+dice.Intn(9))
		checkRefused(t, "a spoilt time", l, from, step, n, api.ErrTime)
		checkRefused(t, "a spoilt time and a wrong step", l, from, 1-step, n, api.ErrArg)
	}
}

// TestP2101LongLists would not end in time, if each point looked through all samples, or work grew by the time that has none.
func TestP2101LongLists(t *testing.T) {
	const each = 100
	l := make([]api.Sample, api.MaxPoints*each)
	want := make([]int, api.MaxPoints)
	for i := range l {
		l[i] = api.Sample{T: i, V: i}
		want[i/each] = i
	}
	checkBoth(t, "a long list", l, 0, each, api.MaxPoints, want, 0)
}

func TestP2102SameAgain(t *testing.T) {
	l := at(0, 5, 25, 7)
	for range 20 {
		checkBoth(t, "again", l, 0, 10, 4, []int{5, 5, 7, 7}, 2)
		checkRefused(t, "an error leaves nothing behind", at(2, 2, 1, 1), 0, 10, 4, api.ErrTime)
		checkBoth(t, "fewer", l, 0, 10, 2, []int{5, 5}, 1)
	}
}

// spare is what stands in the room behind a list.
const spare = 3

func TestP2102ArgumentsStay(t *testing.T) {
	dice := rand.New(rand.NewSource(2102))
	for range 2_000 {
		l := anySamples(dice)
		from, step, n := anyFrom(dice, l), anyStep(dice), dice.Intn(20)
		if dice.Intn(4) == 0 { // refused
			slices.Reverse(l)
		}
		l = append(l, at(1, 2, 3, 4, 5, 6)...)
		was := slices.Clone(l)
		Points(l[:len(l)-spare], from, step, n)
		Gaps(l[:len(l)-spare], from, step, n)
		checkList(t, "P2102", "the samples and their room", l, was)
	}
}

func TestP2102NewMemory(t *testing.T) {
	l := at(0, 5, 25, 7)
	first, _ := Points(l, 0, 10, 4)
	second, _ := Points(l, 0, 10, 4)
	first = first[:cap(first)]
	for i := range first {
		first[i] = -55
	}
	clear(l) // what was handed in is not kept
	checkList(t, "P2102", "Points", second, []int{5, 5, 7, 7})
}
