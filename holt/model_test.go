package holt

import (
	"math/big"
	"math/rand"
	"slices"
	"testing"

	"lysimeter/api"
)

// The plain model computes in numbers of any size, and keeps all that ever was: its lists have one entry a step, and a part of the season is found by going one season back in them.

// cut is a number of any size as an int.
func cut(x *big.Int) int {
	switch {
	case x.IsInt64():
		return int(x.Int64())
	case x.Sign() < 0:
		return api.Least
	}
	return api.Most
}

func wide(x int) *big.Int { return big.NewInt(int64(x)) }

func plainSum(a, b int) int { return cut(new(big.Int).Add(wide(a), wide(b))) }

func plainLess(a, b int) int { return cut(new(big.Int).Sub(wide(a), wide(b))) }

// plainProduct is rounded down: a shift of a big number goes down below 0, too.
func plainProduct(a, b int) int {
	x := new(big.Int).Mul(wide(a), wide(b))
	return cut(x.Rsh(x, 32))
}

// plainShare is a of n, rounded down: a division of big numbers leaves a rest that is never below 0.
func plainShare(a, n int) int { return cut(new(big.Int).Div(wide(a), wide(n))) }

// plain is all that ever was of points.
type plain struct {
	m             api.Model
	level, trend  []int
	part          []int // those of the first season, then one a step
	points, steps int
}

func plainMay(l []int, m api.Model) bool {
	for _, w := range []int{m.Level, m.Trend, m.Seasonal} {
		if w < 0 || w > api.One {
			return false
		}
	}
	return m.Season >= 1 && m.Season <= api.MaxPoints && len(l)/2 >= m.Season
}

func plainMean(l []int) int {
	sum := 0
	for _, x := range l {
		sum = plainSum(sum, x)
	}
	return plainShare(sum, len(l))
}

func newPlain(l []int, m api.Model) *plain {
	p := &plain{m: m}
	a, b := plainMean(l[:m.Season]), plainMean(l[m.Season:][:m.Season])
	p.level = []int{a}
	p.trend = []int{plainShare(plainLess(b, a), m.Season)}
	for _, x := range l[:m.Season] {
		p.part = append(p.part, plainLess(x, a))
	}
	for _, x := range l[m.Season:] {
		p.step(x)
	}
	return p
}

func (p *plain) step(x int) {
	k := p.steps
	level, trend, part := p.level[k], p.trend[k], p.part[k]
	mean := func(w, fresh, old int) int {
		return plainSum(plainProduct(w, fresh), plainProduct(api.One-w, old))
	}
	newer := mean(p.m.Level, plainLess(x, part), plainSum(level, trend))
	p.level = append(p.level, newer)
	p.trend = append(p.trend, mean(p.m.Trend, plainLess(newer, level), trend))
	p.part = append(p.part, mean(p.m.Seasonal, plainLess(x, newer), part))
	p.steps++
}

func (p *plain) cast(ahead int) int {
	k := p.steps
	line := plainSum(p.level[k], plainProduct(cut(new(big.Int).Lsh(wide(ahead), 32)), p.trend[k]))
	at := k + ahead - 1
	for at >= len(p.part) {
		at -= p.m.Season
	}
	return plainSum(line, p.part[at])
}

// season is the newest part of each place.
func (p *plain) season() []int {
	out := make([]int, p.m.Season)
	for i, part := range p.part {
		out[i%p.m.Season] = part
	}
	return out
}

func plainMiss(l []int, m api.Model, last int) int {
	sum := 0
	for i := len(l) - last; i < len(l); i++ {
		far := new(big.Int).Sub(wide(l[i]), wide(newPlain(l[:i], m).cast(1)))
		sum = plainSum(sum, cut(far.Abs(far)))
	}
	return sum
}

// anyOf is one of the numbers.
func anyOf(dice *rand.Rand, l ...int) int {
	return l[dice.Intn(len(l))]
}

// anyPoint is a small number, a fixed-point number that is not great, or any.
func anyPoint(dice *rand.Rand, kind int) int {
	if dice.Intn(30) == 0 {
		return anyOf(dice, 0, api.Least, api.Most, -1)
	}
	return []int{dice.Intn(40) - 20, int(dice.Int63n(200*api.One)) - 100*api.One, int(dice.Uint64()) >> 1, int(dice.Uint64())}[kind]
}

// anyPoints is up to most points, all of them of one kind.
func anyPoints(dice *rand.Rand, most int) []int {
	out := make([]int, dice.Intn(most+1))
	kind := dice.Intn(4)
	for i := range out {
		out[i] = anyPoint(dice, kind)
	}
	return out
}

// anyWeight is mostly one that can be.
func anyWeight(dice *rand.Rand) int {
	if dice.Intn(50) == 0 {
		return anyOf(dice, -1, api.One+1, api.Least, api.Most)
	}
	return anyOf(dice, 0, 1, half, quarter, api.One/8, api.One-1, api.One, dice.Intn(api.One))
}

func anyModel(dice *rand.Rand) api.Model {
	return api.Model{Season: dice.Intn(9) - dice.Intn(2), Level: anyWeight(dice), Trend: anyWeight(dice), Seasonal: anyWeight(dice)}
}

func TestP2301AgainstModel(t *testing.T) {
	dice := rand.New(rand.NewSource(2301))
	made := 0
	for range 30_000 {
		l, m := anyPoints(dice, 40), anyModel(dice)
		if !plainMay(l, m) {
			checkRefused(t, "any points", l, m)
			continue
		}
		made++
		s, p := started(t, "any points", l, m), newPlain(l, m)
		for range dice.Intn(12) {
			checkParts(t, "P2302", "any points", s, p.level[p.steps], p.trend[p.steps], p.season())
			x := anyPoint(dice, dice.Intn(4))
			s.Step(x)
			p.step(x)
		}
		checkParts(t, "P2302", "any points", s, p.level[p.steps], p.trend[p.steps], p.season())
		if t.Failed() {
			t.Fatal(l, m)
		}
	}
	if made < 10_000 {
		t.Error("P2301: hardly any states: ", made)
	}
}

func TestP2303CastAgainstModel(t *testing.T) {
	dice := rand.New(rand.NewSource(2303))
	within := 0
	for range 30_000 {
		l, m := anyPoints(dice, 40), anyModel(dice)
		ahead := anyOf(dice, 1+dice.Intn(20), 1+dice.Intn(20), dice.Intn(9)-6, 1+dice.Intn(api.MaxPoints), api.MaxPoints+dice.Intn(3))
		if !plainMay(l, m) || ahead < 1 || ahead > api.MaxPoints {
			checkNoCast(t, "any points", l, m, ahead)
			continue
		}
		want := newPlain(l, m).cast(ahead)
		checkCast(t, "any points", l, m, ahead, want)
		if t.Failed() {
			t.Fatal(l, m, ahead)
		}
		if want != api.Least && want != api.Most {
			within++
		}
	}
	if within < 5_000 {
		t.Error("P2303: hardly any casts that are not cut: ", within)
	}
}

func TestP2303MissAgainstModel(t *testing.T) {
	dice := rand.New(rand.NewSource(23032))
	cuts, told := 0, 0
	for range 20_000 {
		l, m, last := anyPoints(dice, 30), anyModel(dice), dice.Intn(16)-1
		if last < 1 || len(l) < last || !plainMay(l[:len(l)-last], m) {
			checkNoMiss(t, "any points", l, m, last)
			continue
		}
		want := plainMiss(l, m, last)
		checkMiss(t, "any points", l, m, last, want)
		if t.Failed() {
			t.Fatal(l, m, last)
		}
		if want == api.Most {
			cuts++
		} else if want > 0 {
			told++
		}
	}
	if cuts < 1000 || told < 1000 {
		t.Error("P2303: hardly any sums: ", cuts, told)
	}
}

// TestP2303MissByCast holds Miss against Cast itself.
func TestP2303MissByCast(t *testing.T) {
	dice := rand.New(rand.NewSource(23033))
	for range 2_000 {
		season := 1 + dice.Intn(8)
		m := api.Model{Season: season, Level: quarter, Trend: dice.Intn(half), Seasonal: half}
		l := make([]int, 2*season+1+dice.Intn(30))
		for i := range l {
			l[i] = dice.Intn(100 * one)
		}
		last := 1 + dice.Intn(len(l)-2*season)
		want := 0
		for i := len(l) - last; i < len(l); i++ {
			cast, errno := Cast(l[:i], m, 1)
			check(t, "P2303", "the error of Cast", errno, api.OK)
			want += max(l[i]-cast, cast-l[i])
		}
		checkMiss(t, "by Cast", l, m, last, want)
	}
}

func TestP2304SameAgain(t *testing.T) {
	l, m := wholes(2, 6, 2, 6, 8), all(2, half)
	s := started(t, "five points", l, m)
	for range 20 {
		checkCast(t, "again", l, m, 1, 21*half)
		checkMiss(t, "again", l, m, 1, 6*one)
		checkNoCast(t, "an error leaves nothing behind", l, m, 0)
		checkNoMiss(t, "an error leaves nothing behind", l, m, 2)
		checkCast(t, "other points", wholes(1, 3), all(1, one), 1, 5*one)
		checkMiss(t, "other points", wholes(1, 3, 4), all(1, one), 1, one)
		got, errno := s.Cast(1)
		check(t, "P2304", "a state's, again: the error", errno, api.OK)
		check(t, "P2304", "a state's, again", got, 21*half)
		s.Cast(0)
		checkParts(t, "P2304", "a state's, again", s, 7*one, 3*half, []int{-half, 2 * one})
	}
}

// spare is what stands in the room behind a list.
const spare = 3

func TestP2304ArgumentsStay(t *testing.T) {
	dice := rand.New(rand.NewSource(2304))
	for range 5_000 {
		l := append(anyPoints(dice, 30), 1, 2, 3)
		was := slices.Clone(l)
		in, m, n := l[:len(l)-spare], anyModel(dice), dice.Intn(12)-1
		Cast(in, m, n)
		Miss(in, m, n)
		if s, errno := Start(in, m); errno == api.OK {
			s.Step(n)
			s.Step(n)
		}
		checkList(t, "P2304", "the points and their room", l, was)
	}
}

// TestP2304RoomCountsForNothing has the same points ahead of other ones.
func TestP2304RoomCountsForNothing(t *testing.T) {
	for _, room := range []int{0, 5, api.Most} {
		l := append(wholes(2, 6, 2, 6, 5), room, room, room)
		checkCast(t, "ahead of other points", l[:4], all(2, half), 1, 2*one)
		checkMiss(t, "ahead of other points", l[:5], all(2, half), 1, 3*one)
	}
}

// TestP2304KeepsNothing changes the points behind Start, and the state goes on as one of points that stayed.
func TestP2304KeepsNothing(t *testing.T) {
	l, m := wholes(3, 1, 4, 1, 5, 9), all(3, half)
	s, twin := started(t, "points that change", l, m), started(t, "points that stay", slices.Clone(l), m)
	for k := range 9 {
		for i := range l {
			l[i] = k * one
		}
		level, trend, parts := twin.Parts()
		checkParts(t, "P2304", "behind a change", s, level, trend, parts)
		s.Step(k * one)
		twin.Step(k * one)
	}
}

// TestP2304NewMemory changes what Parts answered.
func TestP2304NewMemory(t *testing.T) {
	s := started(t, "four points", wholes(2, 6, 2, 6), all(2, half))
	_, _, parts := s.Parts()
	for i := range parts {
		parts[i] = 77
	}
	checkParts(t, "P2304", "behind a change", s, 4*one, 0, wholes(-2, 2))
	_, _, before := s.Parts()
	s.Step(8 * one)
	checkList(t, "P2304", "parts that were answered, behind a step", before, wholes(-2, 2))
}

// TestP2304StatesApart has two states of the same points, of which one goes on.
func TestP2304StatesApart(t *testing.T) {
	l := wholes(2, 6, 2, 6)
	one, other := started(t, "the one", l, all(2, half)), started(t, "the other", l, all(2, half))
	one.Step(99)
	checkParts(t, "P2304", "the other", other, 4*api.One, 0, wholes(-2, 2))
}
