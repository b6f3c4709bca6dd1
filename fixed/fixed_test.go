package fixed

import (
	"math/big"
	"sync"
	"testing"

	"lysimeter/api"
)

// call is a function of two numbers, with its name and what mathematics tells of it.
type call struct {
	name string
	got  func(a, b int) int
	want func(a, b int) int
}

func calls() []call {
	return []call{
		{"Add", Add, wantAdd},
		{"Sub", Sub, wantSub},
		{"Mul", Mul, wantMul},
		{"Div", Div, wantDiv},
		{"CeilDiv", CeilDiv, wantCeilDiv},
		{"Neg", first(Neg), first(wantNeg)},
		{"Of", first(Of), first(wantOf)},
		{"Floor", first(Floor), first(wantFloor)},
		{"Ceil", first(Ceil), first(wantCeil)},
	}
}

func first(f func(int) int) func(a, b int) int {
	return func(a, _ int) int { return f(a) }
}

func wide(x int) *big.Int { return big.NewInt(int64(x)) }

func one() *big.Int { return wide(api.One) }

func cutWide(x *big.Int) int {
	if x.Cmp(wide(api.Most)) > 0 {
		return api.Most
	}
	if x.Cmp(wide(api.Least)) < 0 {
		return api.Least
	}
	return int(x.Int64())
}

// floorOf is the greatest whole number that is not above x / y: DivMod leaves a rest that is never below 0, so y must be above 0.
func floorOf(x, y *big.Int) *big.Int {
	if y.Sign() < 0 {
		x, y = new(big.Int).Neg(x), new(big.Int).Neg(y)
	}
	quotient, _ := new(big.Int).DivMod(x, y, new(big.Int))
	return quotient
}

func ceilOf(x, y *big.Int) *big.Int {
	down := floorOf(new(big.Int).Neg(x), y)
	return down.Neg(down)
}

func wantAdd(a, b int) int { return cutWide(new(big.Int).Add(wide(a), wide(b))) }

func wantSub(a, b int) int { return cutWide(new(big.Int).Sub(wide(a), wide(b))) }

func wantNeg(a int) int { return cutWide(new(big.Int).Neg(wide(a))) }

func wantMul(a, b int) int {
	return cutWide(floorOf(new(big.Int).Mul(wide(a), wide(b)), one()))
}

func wantByZero(a int) int { return []int{api.Least, 0, api.Most}[wide(a).Sign()+1] }

func wantDiv(a, b int) int {
	if b == 0 {
		return wantByZero(a)
	}
	return cutWide(floorOf(new(big.Int).Mul(wide(a), one()), wide(b)))
}

func wantCeilDiv(a, b int) int {
	if b == 0 {
		return wantByZero(a)
	}
	return cutWide(ceilOf(new(big.Int).Mul(wide(a), one()), wide(b)))
}

func wantOf(n int) int { return cutWide(new(big.Int).Mul(wide(n), one())) }

func wantFloor(x int) int { return cutWide(floorOf(wide(x), one())) }

func wantCeil(x int) int { return cutWide(ceilOf(wide(x), one())) }

// edges are the numbers around which answers turn: the ends, 0, and each power of 2, with what stands beside them.
func edges() []int {
	out := []int{api.Least, api.Least + 1, api.Most - 1, api.Most, 0, 3 * api.One, -3 * api.One}
	for bit := range 63 {
		for beside := -1; beside <= 1; beside++ {
			x := 1<<bit + beside
			out = append(out, x, -x)
		}
	}
	return out
}

// spread tells numbers of all sizes, the same ones in each run.
func spread(n int) []int {
	state := uint64(88172645463325252)
	out := make([]int, n)
	for i := range out {
		state ^= state << 13
		state ^= state >> 7
		state ^= state << 17
		out[i] = int(state) >> (i * 7 % 64)
	}
	return out
}

func (c call) check(t *testing.T, promise string, a, b int) {
	t.Helper()
	if got, want := c.got(a, b), c.want(a, b); got != want {
		t.Fatalf("%s: %s(%d, %d): %d, want %d", promise, c.name, a, b, got, want)
	}
}

type line struct {
	name      string
	got, want int
}

func checkLines(t *testing.T, promise string, lines []line) {
	t.Helper()
	for _, x := range lines {
		if x.got != x.want {
			t.Errorf("%s: %s: %d, want %d", promise, x.name, x.got, x.want)
		}
	}
}

func TestExamples(t *testing.T) {
	checkLines(t, "examples", []line{
		{"1.5 by 2", Mul(3<<31, 1<<33), 3 << 32},
		{"-1 / 3", Div(-api.One, 3*api.One), -1431655766},
		{"Of(2^40)", Of(1 << 40), api.Most},
		{"Floor(-1)", Floor(-1), -1},
		{"Ceil(-1)", Ceil(-1), 0},
	})
}

func TestP101SumsAreCut(t *testing.T) {
	checkLines(t, "P101", []line{
		{"Most + 1", Add(api.Most, 1), api.Most},
		{"1 + Most", Add(1, api.Most), api.Most},
		{"Most + Most", Add(api.Most, api.Most), api.Most},
		{"Least - 1", Add(api.Least, -1), api.Least},
		{"Least + Least", Add(api.Least, api.Least), api.Least},
		{"Most + Least", Add(api.Most, api.Least), -1},
		{"up to Most", Add(api.Most-5, 5), api.Most},
		{"5 - 7", Sub(5, 7), -2},
		{"0 - Least", Sub(0, api.Least), api.Most},
		{"-1 - Least", Sub(-1, api.Least), api.Most},
		{"-2 - Least", Sub(-2, api.Least), api.Most - 1},
		{"Least - Least", Sub(api.Least, api.Least), 0},
		{"Least - Most", Sub(api.Least, api.Most), api.Least},
		{"-1 - Most", Sub(-1, api.Most), api.Least},
		{"-2 - Most", Sub(-2, api.Most), api.Least},
		{"opposite of Least", Neg(api.Least), api.Most},
		{"opposite of Most", Neg(api.Most), api.Least + 1},
		{"opposite of 0", Neg(0), 0},
	})
}

func TestP101ProductsAreRoundedDownThenCut(t *testing.T) {
	const half = api.One / 2
	checkLines(t, "P101", []line{
		{"least by least, above 0", Mul(1, 1), 0},
		{"least by least, below 0", Mul(-1, 1), -1},
		{"both below 0", Mul(-1, -1), 0},
		{"-3 halves", Mul(-3, half), -2},
		{"3 halves", Mul(3, half), 1},
		{"exact below 0", Mul(-4, half), -2},
		{"0 by below 0", Mul(0, -5), 0},
		{"Most by one", Mul(api.Most, api.One), api.Most},
		{"Least by one", Mul(api.Least, api.One), api.Least},
		{"Least by minus one", Mul(api.Least, -api.One), api.Most},
		{"Most by minus one", Mul(api.Most, -api.One), -api.Most},
		{"Least by just more than one", Mul(api.Least, api.One+1), api.Least},
		{"a rest down to Least", Mul(-api.Most, api.One+1), api.Least},
		{"two words", Mul(api.Most, api.Most), api.Most},
		{"two words, both below 0", Mul(api.Least, api.Least), api.Most},
		{"two words below 0", Mul(api.Most, api.Least), api.Least},
	})
}

func TestP101QuotientsAreRoundedThenCut(t *testing.T) {
	const one, three = api.One, 3 * api.One
	checkLines(t, "P101", []line{
		{"1 / 3 down", Div(one, three), 1431655765},
		{"1 / 3 up", CeilDiv(one, three), 1431655766},
		{"-1 / 3 down", Div(-one, three), -1431655766},
		{"-1 / 3 up", CeilDiv(-one, three), -1431655765},
		{"1 / -3 down", Div(one, -three), -1431655766},
		{"1 / -3 up", CeilDiv(one, -three), -1431655765},
		{"-1 / -3 down", Div(-one, -three), 1431655765},
		{"-1 / -3 up", CeilDiv(-one, -three), 1431655766},
		{"exact down", Div(-6*one, 2*one), -three},
		{"exact up", CeilDiv(6*one, 2*one), three},
		{"hardly more than 0 down", Div(1, api.Most), 0},
		{"hardly more than 0 up", CeilDiv(1, api.Most), 1},
		{"hardly less than 0 down", Div(-1, api.Most), -1},
		{"hardly less than 0 up", CeilDiv(-1, api.Most), 0},
		{"Least by one", Div(api.Least, one), api.Least},
		{"Least by minus one", Div(api.Least, -one), api.Most},
		{"Least by itself", CeilDiv(api.Least, api.Least), one},
		{"Most by the least", Div(api.Most, 1), api.Most},
		{"Most by minus the least", CeilDiv(api.Most, -1), api.Least},
		{"Least by the least", CeilDiv(api.Least, 1), api.Least},
		{"Least by minus the least", Div(api.Least, -1), api.Most},
	})
}

func TestP101QuotientsByZero(t *testing.T) {
	for _, divide := range []func(a, b int) int{Div, CeilDiv} {
		checkLines(t, "P101", []line{
			{"1 / 0", divide(1, 0), api.Most},
			{"Most / 0", divide(api.Most, 0), api.Most},
			{"-1 / 0", divide(-1, 0), api.Least},
			{"Least / 0", divide(api.Least, 0), api.Least},
			{"0 / 0", divide(0, 0), 0},
		})
	}
}

func TestP102Whole(t *testing.T) {
	const end = 1 << 31
	checkLines(t, "P102", []line{
		{"Of(0)", Of(0), 0},
		{"Of(-3)", Of(-3), -3 * api.One},
		{"the greatest that is not cut", Of(end - 1), (end - 1) << 32},
		{"the first that is cut", Of(end), api.Most},
		{"Least just so", Of(-end), api.Least},
		{"cut below", Of(-end - 1), api.Least},
		{"Of(Most)", Of(api.Most), api.Most},
		{"Of(Least)", Of(api.Least), api.Least},
		{"Of(2^32), whose bits would all go", Of(1 << 32), api.Most},
		{"Of(-2^32)", Of(-1 << 32), api.Least},
		{"Floor of 1.5", Floor(3 << 31), 1},
		{"Ceil of 1.5", Ceil(3 << 31), 2},
		{"Floor of -1.5", Floor(-3 << 31), -2},
		{"Ceil of -1.5", Ceil(-3 << 31), -1},
		{"Floor of 2", Floor(2 << 32), 2},
		{"Ceil of 2", Ceil(2 << 32), 2},
		{"Floor of -2", Floor(-2 << 32), -2},
		{"Ceil of -2", Ceil(-2 << 32), -2},
		{"Ceil of the least above 0", Ceil(1), 1},
		{"Floor of Most", Floor(api.Most), end - 1},
		{"Ceil of Most", Ceil(api.Most), end},
		{"Floor of Least", Floor(api.Least), -end},
		{"Ceil of Least", Ceil(api.Least), -end},
	})
}

func TestP101P102AsMathematicsTells(t *testing.T) {
	numbers := edges()
	far := spread(20000)
	for _, c := range calls() {
		for _, a := range numbers {
			for _, b := range numbers {
				c.check(t, "P101, P102", a, b)
			}
		}
		for i := range len(far) - 1 {
			c.check(t, "P101, P102", far[i], far[i+1])
		}
	}
}

// The numbers around a cut: quotients and products that just reach the ends, with each rest beside them.
func TestP101AroundTheCut(t *testing.T) {
	for _, c := range calls() {
		for _, by := range spread(400) {
			for _, end := range []int{api.Most, api.Least} {
				for beside := -2; beside <= 2; beside++ {
					c.check(t, "P101", wantAdd(wantMul(end, by), beside), by)
					c.check(t, "P101", wantAdd(wantDiv(end, by), beside), by)
				}
			}
		}
	}
}

func TestP103Clamp(t *testing.T) {
	checkLines(t, "P103", []line{
		{"within", Clamp(5, 1, 9), 5},
		{"at low", Clamp(1, 1, 9), 1},
		{"at high", Clamp(9, 1, 9), 9},
		{"below", Clamp(0, 1, 9), 1},
		{"above", Clamp(10, 1, 9), 9},
		{"one place", Clamp(5, 5, 5), 5},
		{"low above high, below both", Clamp(2, 7, 3), 7},
		{"low above high, between", Clamp(5, 7, 3), 7},
		{"low above high, at high", Clamp(3, 7, 3), 7},
		{"low above high, at low", Clamp(7, 7, 3), 3},
		{"low above high, above both", Clamp(8, 7, 3), 3},
		{"below 0", Clamp(-5, -3, -1), -3},
		{"the ends", Clamp(api.Least, api.Least, api.Most), api.Least},
		{"the ends, above", Clamp(api.Most, api.Least, -1), -1},
		{"the ends turned", Clamp(0, api.Most, api.Least), api.Most},
	})
}

// Answers are asked again behind other calls, in another order, and by many at once: they must be what they were.
func TestP104NothingElseTells(t *testing.T) {
	numbers := spread(300)
	ask := func(i int) []int {
		a, b := numbers[i], numbers[len(numbers)-1-i]
		out := []int{Clamp(a, b, a/2)}
		for _, c := range calls() {
			out = append(out, c.got(a, b))
		}
		return out
	}
	before := make([][]int, len(numbers))
	for i := range numbers {
		before[i] = ask(i)
	}
	var all sync.WaitGroup
	for range 4 {
		all.Go(func() {
			for i := len(numbers) - 1; i >= 0; i-- {
				for k, again := range ask(i) {
					if again != before[i][k] {
						t.Errorf("P104: call %d of %d: %d, then %d", k, i, before[i][k], again)
					}
				}
			}
		})
	}
	all.Wait()
}
